package rank_test

import (
	"math/big"
	"slices"
	"testing"

	"reeve/api"
	"reeve/heap"
	"reeve/rank"
)

// plainJob is what the document says of jobs: the greater Prio, then the less Seq, then the less Id.
func plainJob(a, b api.Job) bool {
	return a.Prio > b.Prio || a.Prio == b.Prio && (a.Seq < b.Seq || a.Seq == b.Seq && a.Id < b.Id)
}

// plainJobs lets each job in behind the last one that is not after it, so that jobs of which neither is before the other keep their order.
func plainJobs(l []api.Job) []api.Job {
	var in []api.Job
	for _, j := range l {
		at := len(in)
		for at > 0 && plainJob(j, in[at-1]) {
			at--
		}
		in = slices.Insert(in, at, j)
	}
	return in
}

// plainNode is what the document says of nodes: the less Load, then the less Id.
func plainNode(a, b api.Node) bool {
	return a.Load < b.Load || a.Load == b.Load && a.Id < b.Id
}

// plainFree is what the document says of one number that is free, computed with numbers of any size and then taken modulo 2^64.
func plainFree(all, used int) int {
	if all <= used {
		return 0
	}
	n := new(big.Int).Sub(big.NewInt(int64(all)), big.NewInt(int64(used)))
	n.Mod(n, new(big.Int).Lsh(big.NewInt(1), 64))
	return int(n.Uint64())
}

func plainFrees(n api.Node) api.Res {
	return api.Res{plainFree(n.Cap[0], n.Used[0]), plainFree(n.Cap[1], n.Used[1]), plainFree(n.Cap[2], n.Used[2])}
}

// plainTakes is what the document says of a node and a need. It does not ask plainFree, which is slow; that one is held against Free.
func plainTakes(n api.Node, need api.Res) bool {
	for at := range need {
		if n.Cap[at] > n.Used[at] && need[at] > n.Cap[at]-n.Used[at] || n.Cap[at] <= n.Used[at] && need[at] > 0 {
			return false
		}
	}
	return n.Up
}

// edges are the numbers at which an order or a difference is likeliest to be wrong: about 0, about the limits of what they stand for, about the ends of numbers of fewer bits, and the ends of int.
func edges() []int {
	l := []int{api.MinInt, api.MinInt + 1, -1 << 62, 1 << 62, api.MaxInt - 1, api.MaxInt}
	for _, n := range []int{0, 63, 99, 1 << 20, -1 << 20, 1 << 31, -1 << 31, 1 << 32, 1 << 53} {
		l = append(l, n-1, n, n+1)
	}
	slices.Sort(l)
	return slices.Compact(l)
}

// jobs are those of some numbers, in all three places.
func jobs(numbers ...int) []api.Job {
	var l []api.Job
	for _, prio := range numbers {
		for _, seq := range numbers {
			for _, id := range numbers {
				l = append(l, api.Job{Id: id, Prio: prio, Seq: seq})
			}
		}
	}
	return l
}

// nodes are those of some numbers, in both places.
func nodes(numbers ...int) []api.Node {
	var l []api.Node
	for _, load := range numbers {
		for _, id := range numbers {
			l = append(l, api.Node{Id: id, Load: load})
		}
	}
	return l
}

// mixer gives numbers of all lengths and both signs, the same in each run.
func mixer(seed uint64) func() int {
	x := seed
	return func() int {
		x = x*6364136223846793005 + 1442695040888963407
		return int(x) >> (x >> 3 % 64)
	}
}

// fewOf makes of a source of numbers one of few, among them negative ones, so that many are equal.
func fewOf(next func() int) func() int { return func() int { return next() >> 5 % 3 } }

// mixed are many jobs, all different in what the order does not ask for.
func mixed(many int, next func() int) []api.Job {
	l := make([]api.Job, many)
	for i := range l {
		l[i] = api.Job{Id: next(), Prio: next(), Seq: next(), Phase: i, Node: -i, Need: api.Res{i, 0, many - i}}
	}
	return l
}

// vectors are those that have one of some numbers at one position, and others about it.
func vectors(numbers []int) []api.Res {
	var l []api.Res
	for _, n := range numbers {
		for at := range api.Dims {
			for _, other := range []int{0, 5, -3, api.MaxInt} {
				r := api.Res{other, other, other}
				r[at] = n
				l = append(l, r)
			}
		}
		l = append(l, api.Res{n, n, n})
	}
	return l
}

// same holds an order of jobs against the one that the document tells of.
func same(t *testing.T, l ...api.Job) {
	t.Helper()
	was := slices.Clone(l)
	got, want := rank.Jobs(l...), plainJobs(l)
	if !slices.Equal(got, want) {
		t.Fatalf("Jobs(%v) = %v; want %v", was, got, want)
	}
	if !slices.Equal(l, was) {
		t.Fatalf("Jobs(%v) made of its argument %v", was, l)
	}
}

// Ra1: Job

func TestRa1JobExamples(t *testing.T) {
	for _, c := range []struct {
		what string
		a, b api.Job
	}{
		{"Prio", api.Job{Prio: 5}, api.Job{Prio: 3}},
		{"Prio ahead of Seq", api.Job{Prio: 5, Seq: 9}, api.Job{Prio: 3, Seq: 1}},
		{"Prio ahead of Id", api.Job{Prio: 5, Id: 9}, api.Job{Prio: 3, Id: 1}},
		{"Prio ahead of both", api.Job{Prio: 1, Seq: 9, Id: 9}, api.Job{Seq: 1, Id: 1}},
		{"earlier", api.Job{Prio: 3, Seq: 1}, api.Job{Prio: 3, Seq: 2}},
		{"Seq ahead of Id", api.Job{Prio: 3, Seq: 1, Id: 9}, api.Job{Prio: 3, Seq: 2, Id: 1}},
		{"equal Seq too", api.Job{Prio: 3, Seq: 2, Id: 3}, api.Job{Prio: 3, Seq: 2, Id: 4}},
		{"0 ahead of a negative Prio", api.Job{Prio: 0, Seq: 9}, api.Job{Prio: -1, Seq: 1}},
		{"two negative Prios", api.Job{Prio: -1, Seq: 9, Id: 9}, api.Job{Prio: -2, Seq: 1, Id: 1}},
		{"equal negative Prios", api.Job{Prio: -2, Seq: 1, Id: 9}, api.Job{Prio: -2, Seq: 2, Id: 1}},
		{"greatest Prio", api.Job{Prio: api.MaxInt, Seq: 9}, api.Job{Prio: api.MaxInt - 1, Seq: 1}},
		{"greatest and least Prio", api.Job{Prio: api.MaxInt, Seq: 9}, api.Job{Prio: api.MinInt, Seq: 1}},
		{"least Prio", api.Job{Prio: api.MinInt + 1, Seq: 9}, api.Job{Prio: api.MinInt, Seq: 1}},
		{"0 and least Prio", api.Job{Seq: 9}, api.Job{Prio: api.MinInt, Seq: 1}},
		{"1 and least Prio", api.Job{Prio: 1, Seq: 9}, api.Job{Prio: api.MinInt, Seq: 1}},
		{"Prio beyond MaxPrio", api.Job{Prio: 100}, api.Job{Prio: 99}},
		{"negative Seq", api.Job{Seq: -1}, api.Job{Seq: 0}},
		{"least and greatest Seq", api.Job{Seq: api.MinInt, Id: 1}, api.Job{Seq: api.MaxInt}},
		{"negative Id", api.Job{Id: -1}, api.Job{Id: 0}},
		{"least and greatest Id", api.Job{Id: api.MinInt}, api.Job{Id: api.MaxInt}},
	} {
		if !rank.Job(c.a, c.b) {
			t.Errorf("%s: %v is not before %v", c.what, c.a, c.b)
		}
		if rank.Job(c.b, c.a) {
			t.Errorf("%s: %v is before %v", c.what, c.b, c.a)
		}
	}
}

// Two jobs that meet edge by edge in each of the numbers, while the others are less, equal or greater.
func TestRa1JobOfEdges(t *testing.T) {
	l := edges()
	others := [][2]int{{4, 4}, {3, 9}, {9, 3}, {-2, 0}, {0, -2}, {api.MinInt, api.MaxInt}, {api.MaxInt, api.MinInt}}
	for _, x := range l {
		for _, y := range l {
			for _, o := range others {
				for _, p := range others {
					for _, c := range [][2]api.Job{
						{{Prio: x, Seq: o[0], Id: p[0]}, {Prio: y, Seq: o[1], Id: p[1]}},
						{{Prio: o[0], Seq: x, Id: p[0]}, {Prio: o[1], Seq: y, Id: p[1]}},
						{{Prio: o[0], Seq: p[0], Id: x}, {Prio: o[1], Seq: p[1], Id: y}},
					} {
						if got := rank.Job(c[0], c[1]); got != plainJob(c[0], c[1]) {
							t.Fatalf("Job(%v, %v) = %t", c[0], c[1], got)
						}
					}
				}
			}
		}
	}
}

func TestRa1JobOfMixed(t *testing.T) {
	next := mixer(1)
	for _, l := range [][]api.Job{mixed(500, next), mixed(500, fewOf(next)), jobs(-2, -1, 0, 1, 2)} {
		ahead := 0
		for _, a := range l {
			for _, b := range l {
				got := rank.Job(a, b)
				if got != plainJob(a, b) {
					t.Fatalf("Job(%v, %v) = %t", a, b, got)
				}
				if got {
					ahead++
				}
			}
		}
		if ahead < len(l)*len(l)/3 {
			t.Errorf("of %d jobs only %d pairs are in order", len(l), ahead)
		}
	}
}

// Of jobs that differ only in what the order does not ask for, neither is before the other.
func TestRa1JobAsksForThreeNumbersAlone(t *testing.T) {
	for _, j := range append(jobs(-7, 0, 7), jobs(api.MinInt, api.MaxInt)...) {
		for _, other := range []api.Job{{Phase: 1}, {Phase: 4}, {Phase: -1}, {Node: -1}, {Node: 15}, {Need: api.Res{1, 0, 0}}, {Need: api.Res{-1, 5, api.MaxInt}}, {Phase: api.MinInt, Node: api.MinInt, Need: api.Res{api.MinInt}}} {
			a := j
			a.Phase, a.Node, a.Need = other.Phase, other.Node, other.Need
			if rank.Job(a, j) || rank.Job(j, a) {
				t.Errorf("of %v and %v one is before the other", a, j)
			}
			b := a
			b.Id++
			if b.Id > j.Id && (!rank.Job(j, b) || rank.Job(b, j)) {
				t.Errorf("%v is not before %v", j, b)
			}
			if rank.JobKey(a) != rank.JobKey(j) {
				t.Errorf("the keys of %v and %v differ", a, j)
			}
		}
	}
}

// Ra1: JobKey

func TestRa1JobKeyExamples(t *testing.T) {
	for _, c := range []struct {
		j    api.Job
		want api.Key
	}{
		{api.Job{}, api.Key{api.MaxInt, 0, 0}},
		{api.Job{Id: 2, Prio: 5, Seq: 9}, api.Key{9223372036854775802, 9, 2}},
		{api.Job{Id: 3, Prio: 99, Seq: 1}, api.Key{9223372036854775708, 1, 3}},
		{api.Job{Id: 3, Prio: 100, Seq: 1}, api.Key{9223372036854775707, 1, 3}},
		{api.Job{Id: 7, Prio: 1, Seq: 8}, api.Key{api.MaxInt - 1, 8, 7}},
		{api.Job{Id: 7, Prio: 0, Seq: 8}, api.Key{api.MaxInt, 8, 7}},
		{api.Job{Id: 7, Prio: -1, Seq: 8}, api.Key{api.MaxInt, 8, 7}},
		{api.Job{Id: 7, Prio: -2, Seq: 8}, api.Key{api.MaxInt, 8, 7}},
		{api.Job{Id: 7, Prio: api.MinInt, Seq: 8}, api.Key{api.MaxInt, 8, 7}},
		{api.Job{Id: 7, Prio: api.MinInt + 1, Seq: 8}, api.Key{api.MaxInt, 8, 7}},
		{api.Job{Id: 7, Prio: api.MaxInt, Seq: 8}, api.Key{0, 8, 7}},
		{api.Job{Id: 7, Prio: api.MaxInt - 1, Seq: 8}, api.Key{1, 8, 7}},
		{api.Job{Id: -7, Prio: 5, Seq: -8}, api.Key{api.MaxInt - 5, -8, -7}},
		{api.Job{Id: api.MinInt, Prio: 5, Seq: api.MaxInt}, api.Key{api.MaxInt - 5, api.MaxInt, api.MinInt}},
		{api.Job{Id: api.MaxInt, Prio: 5, Seq: api.MinInt}, api.Key{api.MaxInt - 5, api.MinInt, api.MaxInt}},
	} {
		if got := rank.JobKey(c.j); got != c.want {
			t.Errorf("JobKey(%v) = %v; want %v", c.j, got, c.want)
		}
	}
}

func TestRa1JobKeyOfEdges(t *testing.T) {
	for _, j := range jobs(edges()...) {
		want := api.Key{api.MaxInt, j.Seq, j.Id}
		if j.Prio > 0 {
			want[0] -= j.Prio
		}
		if got := rank.JobKey(j); got != want {
			t.Fatalf("JobKey(%v) = %v; want %v", j, got, want)
		}
	}
}

// Ra1: Node and NodeKey

func TestRa1NodeExamples(t *testing.T) {
	for _, c := range []struct {
		what string
		a, b api.Node
	}{
		{"Load", api.Node{Load: 1}, api.Node{Load: 2}},
		{"Load ahead of Id", api.Node{Load: 1, Id: 9}, api.Node{Load: 2, Id: 1}},
		{"equal Load", api.Node{Load: 1, Id: 2}, api.Node{Load: 1, Id: 5}},
		{"Load 0", api.Node{Id: 3}, api.Node{Id: 4}},
		{"Load 0 and 1", api.Node{Id: 4}, api.Node{Id: 3, Load: 1}},
		{"equal Load of 64", api.Node{Load: 64, Id: 0}, api.Node{Load: 64, Id: 1}},
		{"negative Load", api.Node{Load: -1, Id: 9}, api.Node{Id: 1}},
		{"two negative Loads", api.Node{Load: -2, Id: 9}, api.Node{Load: -1, Id: 1}},
		{"equal negative Loads", api.Node{Load: -2, Id: 1}, api.Node{Load: -2, Id: 2}},
		{"least and greatest Load", api.Node{Load: api.MinInt, Id: 9}, api.Node{Load: api.MaxInt, Id: 1}},
		{"negative Id", api.Node{Id: -1}, api.Node{Id: 0}},
		{"least and greatest Id", api.Node{Id: api.MinInt}, api.Node{Id: api.MaxInt}},
	} {
		if !rank.Node(c.a, c.b) {
			t.Errorf("%s: %v is not before %v", c.what, c.a, c.b)
		}
		if rank.Node(c.b, c.a) {
			t.Errorf("%s: %v is before %v", c.what, c.b, c.a)
		}
	}
}

func TestRa1NodeOfAll(t *testing.T) {
	l := nodes(edges()...)
	next := mixer(5)
	for range 300 {
		l = append(l, api.Node{Id: next(), Load: next()})
	}
	for _, a := range l {
		for _, b := range l {
			if got := rank.Node(a, b); got != plainNode(a, b) {
				t.Fatalf("Node(%v, %v) = %t", a, b, got)
			}
		}
	}
}

func TestRa1NodeKey(t *testing.T) {
	if got := rank.NodeKey(api.Node{}); got != (api.Key{}) {
		t.Errorf("the key of a zero node is %v", got)
	}
	if got := rank.NodeKey(api.Node{Id: 5, Load: 1}); got != (api.Key{1, 5, 0}) {
		t.Errorf("NodeKey = %v", got)
	}
	for _, n := range nodes(edges()...) {
		if got := rank.NodeKey(n); got != (api.Key{n.Load, n.Id, 0}) {
			t.Fatalf("NodeKey(%v) = %v", n, got)
		}
	}
}

// Of nodes that differ only in what the order does not ask for, neither is before the other.
func TestRa1NodeAsksForTwoNumbersAlone(t *testing.T) {
	for _, n := range nodes(api.MinInt, -7, 0, 7, api.MaxInt) {
		for _, other := range []api.Node{{Inc: 1}, {Inc: -1}, {Up: true}, {Cap: api.Res{8, 8, 8}}, {Cap: api.Res{8, 8, 8}, Used: api.Res{1, 2, 3}, Up: true}, {Used: api.Res{-1, 5, api.MaxInt}}, {Inc: api.MaxInt, Cap: api.Res{api.MinInt}}} {
			a := other
			a.Id, a.Load = n.Id, n.Load
			if rank.Node(a, n) || rank.Node(n, a) {
				t.Errorf("of %v and %v one is before the other", a, n)
			}
			b := a
			b.Id++
			if b.Id > n.Id && (!rank.Node(n, b) || rank.Node(b, n)) {
				t.Errorf("%v is not before %v", n, b)
			}
			if rank.NodeKey(a) != rank.NodeKey(n) {
				t.Errorf("the keys of %v and %v differ", a, n)
			}
		}
	}
}

// Ra1: Jobs

func TestRa1JobsNone(t *testing.T) {
	for _, l := range [][]api.Job{nil, {}, make([]api.Job, 0, 9), make([]api.Job, 9)[:0]} {
		if got := rank.Jobs(l...); len(got) != 0 {
			t.Errorf("Jobs of none are %v", got)
		}
	}
	if got := rank.Jobs(); len(got) != 0 {
		t.Errorf("Jobs() = %v", got)
	}
}

// One job comes back whole, whatever its numbers are.
func TestRa1JobsOne(t *testing.T) {
	for _, j := range append(mixed(50, mixer(3)), api.Job{}, api.Job{Id: 1, Prio: 2, Seq: 3, Phase: 4, Node: 5, Need: api.Res{6, 7, 8}}) {
		if got := rank.Jobs(j); len(got) != 1 || got[0] != j {
			t.Errorf("Jobs(%v) = %v", j, got)
		}
	}
}

// Example 1 and others.
func TestRa1JobsExamples(t *testing.T) {
	a, b, c, d := api.Job{Id: 1, Prio: 3, Seq: 1}, api.Job{Id: 2, Prio: 5, Seq: 9}, api.Job{Id: 3, Prio: 3, Seq: 2}, api.Job{Id: 4, Prio: 3, Seq: 2}
	for _, l := range [][]api.Job{{a, b, c, d}, {d, c, b, a}, {d, c, a, b}, {b, a, c, d}, {c, d, b, a}} {
		if got := rank.Jobs(l...); !slices.Equal(got, []api.Job{b, a, c, d}) {
			t.Errorf("Jobs(%v) = %v", l, got)
		}
	}
	if got := rank.Jobs(a, a, b, a); !slices.Equal(got, []api.Job{b, a, a, a}) {
		t.Errorf("one job several times: %v", got)
	}
	low, lower, lowest, high := api.Job{Id: 4, Prio: -1, Seq: 9}, api.Job{Id: 3, Prio: -2, Seq: 1}, api.Job{Id: 2, Prio: api.MinInt}, api.Job{Id: 9, Prio: api.MaxInt, Seq: 9}
	none := api.Job{Id: 9, Seq: 9}
	if got := rank.Jobs(lowest, lower, none, low, high); !slices.Equal(got, []api.Job{high, none, low, lower, lowest}) {
		t.Errorf("edges of Prio: %v", got)
	}
}

// All lists of up to four jobs of a few, several of which differ only in what the order does not ask for.
func TestRa1JobsOfShortLists(t *testing.T) {
	few := []api.Job{{Prio: 1}, {Prio: 1, Seq: 1}, {Prio: 1, Id: 1}, {Prio: 1, Id: 1, Phase: 2}, {Prio: 1, Id: 1, Node: -1}, {}, {Need: api.Res{0, 0, 1}}, {Prio: -1}, {Prio: -3, Phase: 1}, {Prio: -3, Phase: 2}}
	var from func(l []api.Job)
	from = func(l []api.Job) {
		same(t, l...)
		if len(l) == 4 {
			return
		}
		for _, j := range few {
			from(append(l, j))
		}
	}
	from(make([]api.Job, 0, 4))
}

// Jobs of which neither is before the other keep their order: in lists of all lengths, for short and long ones are sorted in different ways.
func TestRa1JobsKeepTheirOrder(t *testing.T) {
	for many := range 300 {
		for _, classes := range []int{1, 2, 3, 7} {
			var l []api.Job
			for i := range many {
				l = append(l, api.Job{Id: 5, Prio: i * i % classes, Seq: 7, Phase: i})
			}
			same(t, l...)
			slices.Reverse(l)
			same(t, l...)
		}
	}
}

func TestRa1JobsOfMixed(t *testing.T) {
	next := mixer(9)
	for many := range 120 {
		same(t, mixed(many, next)...)
		same(t, mixed(many, fewOf(next))...)
	}
	same(t, mixed(4000, next)...)
	same(t, mixed(4000, fewOf(next))...)
	same(t, jobs(-2, -1, 0, 1, 2, api.MaxInt, api.MinInt)...)
}

// Jobs that come in order, in reverse, and in order but for one.
func TestRa1JobsInOrderAlready(t *testing.T) {
	var l []api.Job
	for i := range 500 {
		l = append(l, api.Job{Id: 500 - i, Prio: 40 - i/10, Seq: i % 10})
	}
	same(t, l...)
	slices.Reverse(l)
	same(t, l...)
	l = plainJobs(l)
	for _, at := range []int{0, 1, 250, 498, 499} {
		moved := slices.Clone(l)
		moved[at], moved[200] = moved[200], moved[at]
		same(t, moved...)
	}
}

// So many that a plain sort of them would not end: each one is held against its neighbours, and none is lost.
func TestRa1JobsMany(t *testing.T) {
	const many = 1 << 17
	next := mixer(11)
	l := mixed(many, fewOf(next))
	got := rank.Jobs(l...)
	if len(got) != many {
		t.Fatalf("%d of %d jobs", len(got), many)
	}
	seen := make([]bool, many)
	for at, j := range got {
		if seen[j.Phase] || l[j.Phase] != j {
			t.Fatalf("%v at %d is there twice, or another one", j, at)
		}
		seen[j.Phase] = true
		if at == 0 {
			continue
		}
		last := got[at-1]
		if plainJob(j, last) || !plainJob(last, j) && last.Phase > j.Phase {
			t.Fatalf("%v stands behind %v", j, last)
		}
	}
}

// The list that is handed in stays as it is, and shares nothing with the answer; nor do two answers.
func TestRa1JobsAreNewMemory(t *testing.T) {
	for _, many := range []int{1, 2, 3, 30} {
		whole := mixed(many+5, mixer(13))
		slices.SortStableFunc(whole, func(a, b api.Job) int { return b.Seq - a.Seq })
		l, was := whole[:many], slices.Clone(whole)
		first, second := rank.Jobs(l...), rank.Jobs(l...)
		want := slices.Clone(first)
		for at := range first {
			first[at] = api.Job{Id: -at}
		}
		first = append(first, api.Job{Id: 77})
		if !slices.Equal(whole, was) {
			t.Fatalf("the list of %d is changed", many)
		}
		if !slices.Equal(second, want) {
			t.Fatalf("a second answer of %d is changed", many)
		}
		for at := range l {
			l[at] = api.Job{Id: 99}
		}
		if !slices.Equal(second, want) {
			t.Fatalf("the answer of %d is kept in the list", many)
		}
	}
	room := make([]api.Job, 3)
	if got := append(rank.Jobs(room[:0]...), api.Job{Id: 5}); room[0] != (api.Job{}) || got[0].Id != 5 {
		t.Error("what is put behind no jobs shows in the list")
	}
}

// Ra2: Free

func TestRa2FreeExamples(t *testing.T) {
	for _, c := range []struct{ all, used, want api.Res }{
		{api.Res{}, api.Res{}, api.Res{}},
		{api.Res{4, 4, 4}, api.Res{}, api.Res{4, 4, 4}},
		{api.Res{4, 5, 6}, api.Res{3, 1, 2}, api.Res{1, 4, 4}},
		{api.Res{4, 4, 4}, api.Res{1, 5, 0}, api.Res{3, 0, 4}},
		{api.Res{4, 4, 4}, api.Res{5, 5, 5}, api.Res{}},
		{api.Res{4, 4, 4}, api.Res{4, 4, 4}, api.Res{}},
		{api.Res{4, 4, 4}, api.Res{3, 4, 5}, api.Res{1, 0, 0}},
		{api.Res{api.MaxUnit, api.MaxUnit, api.MaxUnit}, api.Res{0, 1, api.MaxUnit}, api.Res{api.MaxUnit, api.MaxUnit - 1, 0}},
		// What isn't valid is reckoned just the same.
		{api.Res{-3, -5, 0}, api.Res{-5, -3, -1}, api.Res{2, 0, 1}},
		{api.Res{0, 0, 0}, api.Res{api.MaxInt, 1, api.MinInt + 1}, api.Res{0, 0, api.MaxInt}},
		{api.Res{-1, -1, -1}, api.Res{api.MinInt, 0, -1}, api.Res{api.MaxInt, 0, 0}},
		// A difference that is too large is taken modulo 2^64; that it's negative then does not make it 0.
		{api.Res{api.MaxInt, 0, 1}, api.Res{-1, api.MinInt, api.MinInt}, api.Res{api.MinInt, api.MinInt, api.MinInt + 1}},
		{api.Res{api.MaxInt, api.MaxInt, 5}, api.Res{api.MinInt, -2, api.MinInt}, api.Res{-1, api.MinInt + 1, api.MinInt + 5}},
		// One that would be too small is none: Cap is not greater.
		{api.Res{api.MinInt, -2, api.MinInt}, api.Res{api.MaxInt, api.MaxInt, 1}, api.Res{}},
	} {
		if got := rank.Free(api.Node{Cap: c.all, Used: c.used}); got != c.want {
			t.Errorf("Free of %v without %v = %v; want %v", c.all, c.used, got, c.want)
		}
	}
}

// Each pair of edges at each position, while there is more, as much, and less of the others.
func TestRa2FreeOfEdges(t *testing.T) {
	l := edges()
	for _, x := range l {
		for _, y := range l {
			for at := range api.Dims {
				for _, o := range [][2]int{{0, 0}, {9, 4}, {4, 9}, {api.MaxInt, api.MinInt}, {api.MinInt, api.MaxInt}, {-4, -9}} {
					n := api.Node{Cap: api.Res{o[0], o[0], o[0]}, Used: api.Res{o[1], o[1], o[1]}}
					n.Cap[at], n.Used[at] = x, y
					if got := rank.Free(n); got != plainFrees(n) {
						t.Fatalf("Free(%v) = %v; want %v", n, got, plainFrees(n))
					}
				}
			}
		}
	}
}

func TestRa2FreeOfMixed(t *testing.T) {
	next := mixer(17)
	for range 20000 {
		n := api.Node{Cap: api.Res{next(), next(), next()}, Used: api.Res{next(), next(), next()}}
		if got := rank.Free(n); got != plainFrees(n) {
			t.Fatalf("Free(%v) = %v; want %v", n, got, plainFrees(n))
		}
	}
}

// What is free does not hang on what else a node is, not even on whether it is up.
func TestRa2FreeAsksForCapAndUsedAlone(t *testing.T) {
	for _, n := range []api.Node{{}, {Up: true}, {Load: 64}, {Load: 65, Up: true}, {Id: -1, Inc: -1, Load: -1}, {Id: 15, Inc: api.MaxId, Up: true}} {
		n.Cap, n.Used = api.Res{9, 8, 7}, api.Res{1, 8, 9}
		if got := rank.Free(n); got != (api.Res{8, 0, 0}) {
			t.Errorf("Free(%v) = %v", n, got)
		}
	}
}

// Ra2: Takes

func TestRa2TakesExamples(t *testing.T) {
	n := api.Node{Cap: api.Res{4, 4, 9}, Used: api.Res{1, 5, 3}, Up: true} // 3, 0 and 6 are free
	for _, c := range []struct {
		need api.Res
		want bool
	}{
		{api.Res{}, true}, {api.Res{3, 0, 6}, true}, {api.Res{3, 0, 0}, true}, {api.Res{0, 0, 6}, true}, {api.Res{2, 0, 5}, true},
		{api.Res{4, 0, 6}, false}, {api.Res{3, 1, 6}, false}, {api.Res{3, 0, 7}, false}, {api.Res{4, 0, 0}, false}, {api.Res{0, 1, 0}, false}, {api.Res{0, 0, 7}, false},
		{api.Res{4, 1, 7}, false}, {api.Res{api.MaxInt, api.MaxInt, api.MaxInt}, false}, {api.Res{0, 0, api.MaxInt}, false},
		// A need that isn't valid is compared just the same.
		{api.Res{-1, -1, -1}, true}, {api.Res{api.MinInt, 0, 6}, true}, {api.Res{-1, 1, -1}, false}, {api.Res{4, api.MinInt, api.MinInt}, false},
	} {
		if got := rank.Takes(n, c.need); got != c.want {
			t.Errorf("Takes(%v, %v) = %t", n, c.need, got)
		}
	}
}

// A node that is not up takes nothing, be there ever so much free, and be the need nothing or less.
func TestRa2TakesDown(t *testing.T) {
	for _, all := range []api.Res{{}, {4, 4, 4}, {api.MaxUnit, api.MaxUnit, api.MaxUnit}, {api.MaxInt, api.MaxInt, api.MaxInt}} {
		for _, need := range []api.Res{{}, {1, 0, 0}, {-1, -1, -1}, {api.MinInt, api.MinInt, api.MinInt}, all} {
			n := api.Node{Id: 1, Inc: 1, Cap: all}
			if rank.Takes(n, need) {
				t.Errorf("%v takes %v", n, need)
			}
			n.Up = true
			if rank.Takes(n, need) != plainTakes(n, need) {
				t.Errorf("%v up, with %v", n, need)
			}
		}
	}
	if rank.Takes(api.Node{}, api.Res{}) || !rank.Takes(api.Node{Up: true}, api.Res{}) {
		t.Error("a zero node")
	}
}

// What just fits, and what does not by 1 in one number, whatever there is of the others.
func TestRa2TakesJustFits(t *testing.T) {
	for _, free := range []int{0, 1, 2, 5, api.MaxUnit - 1, api.MaxUnit} {
		for _, used := range []int{0, 1, 7} {
			for at := range api.Dims {
				for _, left := range []int{0, 1, 100} {
					n := api.Node{Cap: api.Res{200, 200, 200}, Used: api.Res{200 - left, 200 - left, 200 - left}, Up: true}
					n.Cap[at], n.Used[at] = used+free, used
					need := rank.Free(n)
					if !rank.Takes(n, need) {
						t.Errorf("%v does not take %v", n, need)
					}
					need[at]++
					if rank.Takes(n, need) {
						t.Errorf("%v takes %v", n, need)
					}
					need = api.Res{}
					need[at] = free
					if !rank.Takes(n, need) {
						t.Errorf("%v does not take %v", n, need)
					}
					need[at]++
					if rank.Takes(n, need) {
						t.Errorf("%v takes %v", n, need)
					}
				}
			}
		}
	}
}

// Where a difference is too large, the free amount is what it is modulo 2^64, and nothing else is compared.
func TestRa2TakesOfWrapped(t *testing.T) {
	n := api.Node{Cap: api.Res{api.MaxInt, 9, 9}, Used: api.Res{api.MinInt, 0, 0}, Up: true} // -1, 9 and 9 are free
	if rank.Takes(n, api.Res{}) || rank.Takes(n, api.Res{0, 9, 9}) || !rank.Takes(n, api.Res{-1, 9, 9}) || rank.Takes(n, api.Res{-1, 9, 10}) || !rank.Takes(n, api.Res{api.MinInt, 0, 0}) {
		t.Error("-1 free")
	}
	n = api.Node{Cap: api.Res{0, 0, 0}, Used: api.Res{0, 0, api.MinInt}, Up: true}
	if rank.Takes(n, api.Res{}) || rank.Takes(n, api.Res{0, 0, api.MinInt + 1}) || !rank.Takes(n, api.Res{0, 0, api.MinInt}) {
		t.Error("MinInt free")
	}
}

// A node takes what fits, whatever its Load and its other numbers are: whether it is valid is not asked here.
func TestRa2TakesAsksForNothingElse(t *testing.T) {
	for _, n := range []api.Node{{}, {Load: 64}, {Load: 65}, {Load: api.MaxInt}, {Load: -1}, {Id: -1}, {Id: 16}, {Inc: -1}, {Id: 15, Inc: api.MaxId}} {
		n.Cap, n.Used, n.Up = api.Res{9, 8, 7}, api.Res{1, 8, 9}, true
		if !rank.Takes(n, api.Res{8, 0, 0}) || rank.Takes(n, api.Res{9, 0, 0}) {
			t.Errorf("%v", n)
		}
	}
}

func TestRa2TakesOfAll(t *testing.T) {
	few := vectors([]int{api.MinInt, -1, 0, 1, 5, 6, api.MaxUnit, api.MaxInt})
	took, not := 0, 0
	for _, all := range few {
		for _, used := range few {
			for _, need := range few {
				for _, up := range []bool{true, false} {
					n := api.Node{Cap: all, Used: used, Up: up}
					got := rank.Takes(n, need)
					if got != plainTakes(n, need) {
						t.Fatalf("Takes(%v, %v) = %t", n, need, got)
					}
					if got {
						took++
					} else if up {
						not++
					}
				}
			}
		}
	}
	if took < 10000 || not < 10000 {
		t.Errorf("%d take, %d do not", took, not)
	}
}

func TestRa2TakesOfMixed(t *testing.T) {
	next := mixer(19)
	for range 20000 {
		n := api.Node{Cap: api.Res{next(), next(), next()}, Used: api.Res{next(), next(), next()}, Up: true}
		need := plainFrees(n)
		if !rank.Takes(n, need) {
			t.Fatalf("%v does not take %v", n, need)
		}
		for at := range need {
			more := need
			more[at]++
			if got := rank.Takes(n, more); got != plainTakes(n, more) {
				t.Fatalf("Takes(%v, %v) = %t", n, more, got)
			}
		}
		need = api.Res{next(), next(), next()}
		if got := rank.Takes(n, need); got != plainTakes(n, need) {
			t.Fatalf("Takes(%v, %v) = %t", n, need, got)
		}
	}
}

// Ra3

// Of two jobs with different numbers exactly one is before the other; no job is before itself.
func TestRa3JobsOneIsBefore(t *testing.T) {
	next := mixer(23)
	l := append(jobs(api.MinInt, -1, 0, 1, 2, api.MaxInt), append(mixed(200, next), mixed(200, fewOf(next))...)...)
	for _, a := range l {
		if rank.Job(a, a) {
			t.Fatalf("%v is before itself", a)
		}
		for _, b := range l {
			if rank.Job(a, b) && rank.Job(b, a) {
				t.Fatalf("%v and %v are before each other", a, b)
			}
			if a.Id != b.Id && !rank.Job(a, b) && !rank.Job(b, a) {
				t.Fatalf("of %v and %v neither is before the other", a, b)
			}
		}
	}
}

func TestRa3JobsTransitive(t *testing.T) {
	for _, l := range [][]api.Job{jobs(-1, 0, 1, 2), jobs(api.MinInt, -1, 0, api.MaxInt), mixed(100, mixer(29))} {
		for _, a := range l {
			for _, b := range l {
				if !rank.Job(a, b) {
					continue
				}
				for _, c := range l {
					if rank.Job(b, c) && !rank.Job(a, c) {
						t.Fatalf("%v, %v, %v", a, b, c)
					}
				}
			}
		}
	}
}

func TestRa3NodesOneIsBefore(t *testing.T) {
	l := nodes(edges()...)
	for _, a := range l {
		if rank.Node(a, a) {
			t.Fatalf("%v is before itself", a)
		}
		for _, b := range l {
			if rank.Node(a, b) && rank.Node(b, a) {
				t.Fatalf("%v and %v are before each other", a, b)
			}
			if a.Id != b.Id && !rank.Node(a, b) && !rank.Node(b, a) {
				t.Fatalf("of %v and %v neither is before the other", a, b)
			}
		}
	}
}

func TestRa3NodesTransitive(t *testing.T) {
	l := nodes(api.MinInt, api.MinInt+1, -2, -1, 0, 1, 2, 1<<32, api.MaxInt-1, api.MaxInt)
	for _, a := range l {
		for _, b := range l {
			for _, c := range l {
				if rank.Node(a, b) && rank.Node(b, c) && !rank.Node(a, c) {
					t.Fatalf("%v, %v, %v", a, b, c)
				}
			}
		}
	}
}

// Jobs whose Prio is not negative, and all nodes, are in the order of their keys.
func TestRa3KeysGiveTheSameOrder(t *testing.T) {
	next := mixer(31)
	l := append(jobs(api.MinInt, -1, 0, 1, 99, api.MaxInt-1, api.MaxInt), mixed(300, next)...)
	l = slices.DeleteFunc(append(l, mixed(300, fewOf(next))...), func(j api.Job) bool { return j.Prio < 0 })
	if len(l) < 400 {
		t.Fatalf("%d jobs", len(l))
	}
	for _, a := range l {
		for _, b := range l {
			if rank.Job(a, b) != heap.Less(rank.JobKey(a), rank.JobKey(b)) {
				t.Fatalf("%v and %v, keys %v and %v", a, b, rank.JobKey(a), rank.JobKey(b))
			}
		}
	}
	all := nodes(edges()...)
	for _, a := range all {
		for _, b := range all {
			if rank.Node(a, b) != heap.Less(rank.NodeKey(a), rank.NodeKey(b)) {
				t.Fatalf("%v and %v, keys %v and %v", a, b, rank.NodeKey(a), rank.NodeKey(b))
			}
		}
	}
}

// A heap by the keys hands the jobs out as Jobs does.
func TestRa3HeapOfKeys(t *testing.T) {
	next := mixer(37)
	h := heap.New()
	var l []api.Job
	for id := range 2000 {
		j := api.Job{Id: id * 7 % 2000, Prio: next() & api.MaxInt >> 5 % 4, Seq: next() >> 5 % 20}
		if id%10 == 0 {
			j.Prio = next() & api.MaxInt
		}
		l = append(l, j)
		h.Put(j.Id, rank.JobKey(j))
	}
	for _, j := range rank.Jobs(l...) {
		if id, _, ok := h.Take(); id != j.Id || !ok {
			t.Fatalf("the heap hands out %d, and Jobs %v", id, j)
		}
	}
}

// A negative Prio counts as 0 in a key, and as what it is in the order.
func TestRa3NegativePrios(t *testing.T) {
	for _, low := range []int{-1, -2, -99, api.MinInt + 1, api.MinInt} {
		a, b := api.Job{Id: 2, Seq: 5}, api.Job{Id: 1, Prio: low, Seq: 4}
		if !rank.Job(a, b) || rank.Job(b, a) || !heap.Less(rank.JobKey(b), rank.JobKey(a)) {
			t.Errorf("0 and %d", low)
		}
		if got := rank.Jobs(b, a); !slices.Equal(got, []api.Job{a, b}) {
			t.Errorf("0 and %d: %v", low, got)
		}
	}
}
