package beat_test

import (
	"slices"
	"testing"

	"reeve/api"
	"reeve/beat"
)

const (
	last  = 1 << 40   // the last tick
	most  = 1<<31 - 1 // the greatest incarnation
	nodes = 16        // the numbers of nodes are below this one
)

// model has the beats as the document tells of them, in no order. What is first is looked for each time.
type model struct {
	span int
	kept map[int]api.Beat
}

func isTick(n int) bool { return n >= 0 && n <= last }

func isNode(n int) bool { return n >= 0 && n < nodes }

func isInc(n int) bool { return n >= 1 && n <= most }

// end is the tick so many ticks later, but none beyond the last one.
func end(now, span int) int {
	if now > last-span {
		return last
	}
	return now + span
}

func (m *model) seen(node, inc, now int) api.Errno {
	if !isNode(node) || !isInc(inc) || !isTick(now) {
		return api.ErrArg
	}
	was, had := m.kept[node]
	if had && inc < was.Inc {
		return api.ErrFence
	}
	to := end(now, m.span)
	if had && inc == was.Inc && to < was.Until {
		to = was.Until
	}
	m.kept[node] = api.Beat{Node: node, Inc: inc, Until: to}
	return api.OK
}

func (m *model) drop(node, inc int) bool {
	was, had := m.kept[node]
	if !had || was.Inc != inc {
		return false
	}
	delete(m.kept, node)
	return true
}

// due takes the first one, again and again: it is that with the least Until, and of several such the one with the least number.
func (m *model) due(now int) []api.Beat {
	var l []api.Beat
	for {
		found := false
		var first api.Beat
		for node := range nodes {
			b, is := m.kept[node]
			if is && b.Until <= now && (!found || b.Until < first.Until) {
				first, found = b, true
			}
		}
		if !found {
			return l
		}
		delete(m.kept, first.Node)
		l = append(l, first)
	}
}

func (m *model) all() []api.Beat {
	var l []api.Beat
	for node := range nodes {
		if b, is := m.kept[node]; is {
			l = append(l, b)
		}
	}
	return l
}

// step is a call that may change a table.
type step struct {
	what string
	l    []int
}

// trial does with a table and with the model the same, and holds them against each other.
type trial struct {
	t     *testing.T
	x     *beat.Table
	m     *model
	steps []step
}

func begin(t *testing.T, span int) *trial {
	t.Helper()
	x, e := beat.New(span)
	if x == nil || e != api.OK {
		t.Fatalf("New(%d) = %v, %v", span, x, e)
	}
	return &trial{t: t, x: x, m: &model{span: span, kept: map[int]api.Beat{}}}
}

// wrong ends the test, and tells what was done last.
func (r *trial) wrong(form string, args ...any) {
	r.t.Helper()
	r.t.Fatalf("span %d: "+form+"\nafter %v", append(append([]any{r.m.span}, args...), r.steps[max(0, len(r.steps)-30):])...)
}

func (r *trial) seen(node, inc, now int) api.Errno {
	r.t.Helper()
	r.steps = append(r.steps, step{"seen", []int{node, inc, now}})
	want := r.m.seen(node, inc, now)
	if got := r.x.Seen(node, inc, now); got != want {
		r.wrong("Seen(%d, %d, %d) = %v; want %v", node, inc, now, got, want)
	}
	return want
}

func (r *trial) drop(node, inc int) bool {
	r.t.Helper()
	r.steps = append(r.steps, step{"drop", []int{node, inc}})
	want := r.m.drop(node, inc)
	if got := r.x.Drop(node, inc); got != want {
		r.wrong("Drop(%d, %d) = %t", node, inc, got)
	}
	return want
}

func (r *trial) due(now int) []api.Beat {
	r.t.Helper()
	r.steps = append(r.steps, step{"due", []int{now}})
	want := r.m.due(now)
	if got := r.x.Due(now); !slices.Equal(got, want) {
		r.wrong("Due(%d) = %v; want %v", now, got, want)
	}
	return want
}

func (r *trial) get(node int) {
	r.t.Helper()
	want, is := r.m.kept[node]
	if got, ok := r.x.Get(node); got != want || ok != is {
		r.wrong("Get(%d) = %v, %t; want %v, %t", node, got, ok, want, is)
	}
}

func (r *trial) all() {
	r.t.Helper()
	if got, want := r.x.All(), r.m.all(); !slices.Equal(got, want) {
		r.wrong("All() = %v; want %v", got, want)
	}
}

// same asks all that can be asked without a change, of nodes and of others.
func (r *trial) same() {
	r.t.Helper()
	r.all()
	for node := -2; node < nodes+2; node++ {
		r.get(node)
	}
	r.all()
}

// drain lets all be due, tick by tick, and once more.
func (r *trial) drain() {
	r.t.Helper()
	for len(r.m.kept) > 0 {
		first := last
		for _, b := range r.m.kept {
			first = min(first, b.Until)
		}
		r.due(first - 1)
		r.due(first)
		r.all()
	}
	r.due(api.MaxInt)
	r.same()
}

// edges are the numbers at which arguments are likeliest to be told apart wrongly: about 0, about the document's limits, about the ends of numbers of fewer bits, and the ends of int.
func edges() []int {
	l := []int{api.MinInt, api.MinInt + 1, api.MaxInt - 1, api.MaxInt}
	for _, n := range []int{0, 5, 16, 64, 99, 1 << 8, 1 << 15, 1 << 16, 1 << 30, 1 << 31, 1 << 32, 1 << 39, last, 2 * last, 1 << 53, 1 << 62, api.MaxInt - last} {
		l = append(l, n-1, n, n+1, -n-1, -n, -n+1)
	}
	slices.Sort(l)
	return slices.Compact(l)
}

// bits are numbers that have, or lack, one bit, which a number that was made shorter would not tell apart.
func bits() []int {
	var l []int
	for bit := range 63 {
		l = append(l, 1<<bit, 1<<bit+3, 1<<bit-1, -1<<bit, -1<<bit+3, ^(1 << bit))
	}
	return append(l, api.MinInt, api.MinInt+3, api.MaxInt)
}

// around are the numbers about one, and those that differ from it in one bit.
func around(n int) []int {
	l := []int{n - 2, n - 1, n, n + 1, n + 2, -n, ^n}
	for bit := range 64 {
		l = append(l, n^1<<bit)
	}
	return l
}

// only are those of some numbers of which a test is true; without are the others.
func only(test func(n int) bool, l ...[]int) []int {
	return slices.DeleteFunc(slices.Concat(l...), func(n int) bool { return !test(n) })
}

func without(test func(n int) bool, l ...[]int) []int {
	return slices.DeleteFunc(slices.Concat(l...), test)
}

func ticks() []int {
	return only(isTick, edges(), []int{last - 65, last - 64, last - 63, last - 6, last - 5, last - 4, last - 2})
}

func incs() []int { return only(isInc, edges(), []int{2, 3, 1 << 20, most - 1, most}) }

// mixer gives numbers below others, the same in each run.
func mixer(seed uint64) func(below int) int {
	x := seed
	return func(below int) int {
		x = x*6364136223846793005 + 1442695040888963407
		return int(x>>33) % below
	}
}

// lists are all that have up to so many of some numbers.
func lists(many int, numbers ...int) [][]int {
	all := [][]int{nil}
	from := 0
	for range many {
		to := len(all)
		for _, l := range all[from:to] {
			for _, n := range numbers {
				all = append(all, append(slices.Clone(l), n))
			}
		}
		from = to
	}
	return all
}

// orders hands out all orders of the numbers below n.
func orders(n int, do func(l []int)) {
	l := make([]int, n)
	for i := range l {
		l[i] = i
	}
	var from func(at int)
	from = func(at int) {
		if at == n {
			do(l)
			return
		}
		for i := at; i < n; i++ {
			l[at], l[i] = l[i], l[at]
			from(at + 1)
			l[at], l[i] = l[i], l[at]
		}
	}
	from(0)
}

// tables are some of all sorts, of span 5: without beats, with one of a node at either end, with one of each node, and with some of which others were dropped or due.
func tables(t *testing.T) []*trial {
	none, low, high, full, left := begin(t, 5), begin(t, 5), begin(t, 5), begin(t, 5), begin(t, 5)
	low.seen(0, 7, 20)
	high.seen(nodes-1, most, last-9)
	for node := range nodes {
		full.seen(node, node%4+5, 20+node*5%7)
		left.seen(node, node%3+6, 10+node)
	}
	left.due(20)
	left.drop(9, 6)
	left.drop(15, 6)
	if len(left.m.kept) != 8 {
		t.Fatal("the model is wrong")
	}
	return []*trial{none, low, high, full, left}
}

// Be1

// Each span: a table is there if, and only if, it is from 1 to 64, and it has no beats.
func TestBe1New(t *testing.T) {
	all := slices.Concat(edges(), bits())
	for span := -70; span < 140; span++ {
		all = append(all, span)
	}
	for _, span := range all {
		x, e := beat.New(span)
		if span < 1 || span > 64 {
			if x != nil || e != api.ErrArg {
				t.Errorf("New(%d) = %v, %v", span, x, e)
			}
			continue
		}
		if x == nil || e != api.OK {
			t.Fatalf("New(%d) = %v, %v", span, x, e)
		}
		if l := x.All(); len(l) != 0 {
			t.Errorf("New(%d): All() = %v", span, l)
		}
		if l := x.Due(api.MaxInt); len(l) != 0 {
			t.Errorf("New(%d): Due() = %v", span, l)
		}
		if e := x.Seen(3, 1, 7); e != api.OK {
			t.Errorf("New(%d): Seen(3, 1, 7) = %v", span, e)
		}
		if b, ok := x.Get(3); b != (api.Beat{Node: 3, Inc: 1, Until: 7 + span}) || !ok {
			t.Errorf("New(%d): behind Seen(3, 1, 7): Get(3) = %v, %t", span, b, ok)
		}
	}
	if api.MaxSpan != 64 || api.MaxNodes != nodes || api.MaxTick != last || api.MaxId != most {
		t.Error("the limits are not the document's")
	}
}

func TestBe1NewHasNoBeats(t *testing.T) {
	r := begin(t, 5)
	r.same()
	for _, n := range slices.Concat(edges(), bits()) {
		r.get(n)
		r.drop(n, 0)
		r.drop(n, 1)
		r.drop(0, n)
		r.drop(n, n)
		r.due(n)
		r.all()
	}
	r.same()
}

// A table from New is without beats, whatever was done with those ahead of it, and each keeps its own beats and its own span.
func TestBe1TablesApart(t *testing.T) {
	var all []*trial
	for n := range 64 {
		r := begin(t, n+1)
		r.same()
		for node := range n % (nodes + 1) {
			r.seen(node, n+1, 100+node)
		}
		if n%3 == 0 {
			r.due(100 + n)
		}
		r.drop(2, n+1)
		all = append(all, r)
	}
	for _, r := range all {
		r.same()
		r.seen(5, 70, 1000)
		r.same()
	}
	for _, r := range all {
		r.drain()
	}
	for _, l := range lists(5, 0, 1, 2, 3) {
		a, b := begin(t, 3), begin(t, 6)
		for now, what := range l {
			r := []*trial{a, b}[what%2]
			if what < 2 {
				r.seen(now%2, 1, now)
			} else {
				r.due(now + 2)
			}
			a.all()
			b.all()
		}
		a.drain()
		b.drain()
	}
}

// Each span, each node, each tick: until when a beat counts. Near the last tick it counts until that one.
func TestBe1Seen(t *testing.T) {
	for span := 1; span <= 64; span++ {
		for _, now := range slices.Concat(ticks(), []int{last - span - 1, last - span, last - span + 1}) {
			x, _ := beat.New(span)
			for node := range nodes {
				inc := node*node + 1
				if e := x.Seen(node, inc, now); e != api.OK {
					t.Fatalf("span %d: Seen(%d, %d, %d) = %v", span, node, inc, now, e)
				}
				if b, ok := x.Get(node); b != (api.Beat{Node: node, Inc: inc, Until: min(now+span, last)}) || !ok {
					t.Fatalf("span %d: behind Seen(%d, %d, %d): Get() = %v, %t", span, node, inc, now, b, ok)
				}
			}
			if l := x.All(); len(l) != nodes {
				t.Fatalf("span %d: All() = %v", span, l)
			}
		}
	}
	for _, now := range only(isTick, bits()) {
		r := begin(t, 5)
		r.seen(7, 1, now)
		r.same()
		r.drain()
	}
}

// Each incarnation that there is, on each node, alone and beside others.
func TestBe1SeenIncarnations(t *testing.T) {
	for _, inc := range slices.Concat(incs(), only(isInc, bits())) {
		r := begin(t, 5)
		for node := range nodes {
			if r.seen(node, inc, 20+node) != api.OK {
				t.Fatal("the model is wrong")
			}
			r.get(node)
		}
		r.same()
		r.drop(3, inc)
		r.drain()
	}
}

// The ends of what an argument may be, and what stands beyond them, one argument at a time.
func TestBe1ArgumentsAtTheEnds(t *testing.T) {
	for _, c := range []struct {
		node, inc, now int
		want           api.Errno
	}{
		{0, 1, 0, api.OK}, {15, 1, 0, api.OK}, {-1, 1, 0, api.ErrArg}, {16, 1, 0, api.ErrArg}, {17, 1, 0, api.ErrArg}, {100, 1, 0, api.ErrArg}, {api.MinInt, 1, 0, api.ErrArg}, {api.MaxInt, 1, 0, api.ErrArg}, {1 << 32, 1, 0, api.ErrArg}, {-16, 1, 0, api.ErrArg},
		{3, most, 0, api.OK}, {3, 0, 0, api.ErrArg}, {3, -1, 0, api.ErrArg}, {3, most + 1, 0, api.ErrArg}, {3, -most, 0, api.ErrArg}, {3, 1 << 32, 0, api.ErrArg}, {3, 1<<32 + 1, 0, api.ErrArg}, {3, api.MinInt, 0, api.ErrArg}, {3, api.MaxInt, 0, api.ErrArg},
		{3, 1, last, api.OK}, {3, 1, last - 1, api.OK}, {3, 1, -1, api.ErrArg}, {3, 1, last + 1, api.ErrArg}, {3, 1, -last, api.ErrArg}, {3, 1, 2 * last, api.ErrArg}, {3, 1, api.MinInt, api.ErrArg}, {3, 1, api.MaxInt, api.ErrArg},
		{-1, 0, -1, api.ErrArg}, {16, most + 1, last + 1, api.ErrArg}, {15, most, last, api.OK},
	} {
		x, _ := beat.New(5)
		if e := x.Seen(c.node, c.inc, c.now); e != c.want {
			t.Errorf("Seen(%d, %d, %d) = %v", c.node, c.inc, c.now, e)
		}
		b, ok := x.Get(c.node)
		if c.want == api.OK && (b != (api.Beat{Node: c.node, Inc: c.inc, Until: min(c.now+5, last)}) || !ok || !slices.Equal(x.All(), []api.Beat{b})) {
			t.Errorf("behind Seen(%d, %d, %d): Get() = %v, %t", c.node, c.inc, c.now, b, ok)
		}
		if c.want != api.OK && (b != api.Beat{} || ok || len(x.All()) != 0) {
			t.Errorf("behind Seen(%d, %d, %d): Get() = %v, %t", c.node, c.inc, c.now, b, ok)
		}
	}
}

// What is no node, no incarnation or no tick is ErrArg, on tables of all sorts, and changes nothing; with an incarnation that is too old, too.
func TestBe1ArgumentsNotValid(t *testing.T) {
	wrongNode := without(isNode, edges(), bits(), around(3))
	wrongInc := without(isInc, edges(), bits(), around(7))
	wrongAt := without(isTick, edges(), bits(), around(20))
	for _, r := range tables(t) {
		refused := func(node, inc, now int) {
			if r.seen(node, inc, now) != api.ErrArg {
				t.Fatal("the model is wrong")
			}
			r.all()
		}
		for _, node := range wrongNode {
			refused(node, 7, 20)
			refused(node, 1, 0)
			refused(node, 0, 20)
			refused(node, 7, -1)
			r.get(node)
		}
		for node := range nodes {
			for _, inc := range wrongInc {
				refused(node, inc, 30)
			}
			for _, now := range wrongAt {
				for _, inc := range []int{1, 7, most} { // older, perhaps the same, newer
					refused(node, inc, now)
				}
			}
			refused(node, 0, -1)
			refused(node, most+1, last+1)
		}
		r.same()
		r.drain()
	}
}

// An incarnation that is less than that of the beat is ErrFence, the same one and a greater one are not; each against each, at a tick that is earlier, the same or later.
func TestBe1Fence(t *testing.T) {
	for _, was := range incs() {
		for _, inc := range slices.Concat(incs(), only(isInc, around(was))) {
			for _, now := range []int{0, 19, 20, 21, last} {
				x, _ := beat.New(5)
				x.Seen(4, was, 20)
				e := x.Seen(4, inc, now)
				b, ok := x.Get(4)
				want, wantB := api.OK, api.Beat{Node: 4, Inc: inc, Until: min(now+5, last)}
				switch {
				case inc < was:
					want, wantB = api.ErrFence, api.Beat{Node: 4, Inc: was, Until: 25}
				case inc == was:
					wantB.Until = max(wantB.Until, 25)
				}
				if e != want || b != wantB || !ok {
					t.Fatalf("behind Seen(4, %d, 20): Seen(4, %d, %d) = %v; Get(4) = %v, %t; want %v", was, inc, now, e, b, ok, wantB)
				}
			}
		}
	}
}

// What is rejected changes nothing: neither that beat nor another one, nor when they are due.
func TestBe1FenceChangesNothing(t *testing.T) {
	for _, r := range tables(t) {
		for _, b := range r.m.all() {
			for _, inc := range only(func(n int) bool { return isInc(n) && n < b.Inc }, edges(), around(b.Inc)) {
				for _, now := range []int{0, 20, b.Until - 1, b.Until, b.Until + 1, last} {
					if r.seen(b.Node, inc, now) != api.ErrFence {
						t.Fatal("the model is wrong")
					}
				}
			}
			r.same()
		}
		r.drain()
	}
}

// A beat that is past its Until is one as long as it was not returned: it rejects older incarnations, and keeps its Until.
func TestBe1FencePastUntil(t *testing.T) {
	for _, now := range []int{24, 25, 26, 1000, last} {
		r := begin(t, 5)
		r.seen(2, 8, 20)
		if r.seen(2, 7, now) != api.ErrFence {
			t.Fatal("the model is wrong")
		}
		r.same()
		r.seen(2, 8, now)
		r.same()
		r.seen(2, 7, now)
		r.same()
		r.drain()
	}
}

// The fence of a node is that node's alone.
func TestBe1FenceOfEachNode(t *testing.T) {
	for a := range nodes {
		r := begin(t, 5)
		r.seen(a, 9, 20)
		for b := range nodes {
			want := api.OK
			if b == a {
				want = api.ErrFence
			}
			if r.seen(b, 3, 20) != want {
				t.Fatal("the model is wrong")
			}
			r.all()
		}
		r.same()
		r.drain()
	}
}

// The same incarnation at each tick behind each: Until becomes later, or stays.
func TestBe1SameIncarnation(t *testing.T) {
	l := slices.Concat(ticks(), []int{18, 19, 20, 21, 22, 35, 36, 37})
	for _, span := range []int{1, 5, 64} {
		for _, from := range l {
			for _, now := range l {
				x, _ := beat.New(span)
				x.Seen(6, 3, from)
				if e := x.Seen(6, 3, now); e != api.OK {
					t.Fatalf("span %d: behind Seen(6, 3, %d): Seen(6, 3, %d) = %v", span, from, now, e)
				}
				until := min(max(from, now)+span, last)
				if b, ok := x.Get(6); b != (api.Beat{Node: 6, Inc: 3, Until: until}) || !ok {
					t.Fatalf("span %d: behind Seen(6, 3, %d) and Seen(6, 3, %d): Get(6) = %v, %t", span, from, now, b, ok)
				}
				if d := x.Due(until - 1); len(d) != 0 {
					t.Fatalf("span %d: behind Seen(6, 3, %d) and Seen(6, 3, %d): Due(%d) = %v", span, from, now, until-1, d)
				}
				if d := x.Due(until); !slices.Equal(d, []api.Beat{{Node: 6, Inc: 3, Until: until}}) {
					t.Fatalf("span %d: behind Seen(6, 3, %d) and Seen(6, 3, %d): Due(%d) = %v", span, from, now, until, d)
				}
			}
		}
	}
}

// A greater incarnation at each tick behind each: its Until is its own, though it may be earlier than before.
func TestBe1GreaterIncarnation(t *testing.T) {
	l := slices.Concat(ticks(), []int{18, 19, 20, 21, 22, 35, 36, 37})
	for _, incs := range [][2]int{{1, 2}, {3, 99}, {1, most}, {most - 1, most}} {
		for _, from := range l {
			for _, now := range l {
				x, _ := beat.New(5)
				x.Seen(6, incs[0], from)
				if e := x.Seen(6, incs[1], now); e != api.OK {
					t.Fatalf("behind Seen(6, %d, %d): Seen(6, %d, %d) = %v", incs[0], from, incs[1], now, e)
				}
				want := api.Beat{Node: 6, Inc: incs[1], Until: min(now+5, last)}
				if b, ok := x.Get(6); b != want || !ok {
					t.Fatalf("behind Seen(6, %d, %d) and Seen(6, %d, %d): Get(6) = %v, %t", incs[0], from, incs[1], now, b, ok)
				}
				if d := x.Due(want.Until - 1); len(d) != 0 {
					t.Fatalf("Due(%d) = %v; the beat was %v", want.Until-1, d, want)
				}
				if d := x.Due(api.MaxInt); !slices.Equal(d, []api.Beat{want}) {
					t.Fatalf("Due() = %v; the beat was %v", d, want)
				}
			}
		}
	}
}

// Until follows the incarnation: the same one lengthens it, a greater one sets it anew, an older one leaves it.
func TestBe1UntilFollows(t *testing.T) {
	x, _ := beat.New(5)
	for _, c := range []struct {
		inc, now int
		want     api.Errno
		is, end  int
	}{
		{2, 20, api.OK, 2, 25}, {2, 19, api.OK, 2, 25}, {2, 21, api.OK, 2, 26}, {1, 40, api.ErrFence, 2, 26},
		{3, 10, api.OK, 3, 15}, {2, 30, api.ErrFence, 3, 15}, {3, 9, api.OK, 3, 15}, {3, 11, api.OK, 3, 16},
		{9, 0, api.OK, 9, 5}, {9, last, api.OK, 9, last}, {9, 0, api.OK, 9, last}, {10, 0, api.OK, 10, 5}, {9, 0, api.ErrFence, 10, 5},
	} {
		if e := x.Seen(8, c.inc, c.now); e != c.want {
			t.Errorf("Seen(8, %d, %d) = %v", c.inc, c.now, e)
		}
		if b, ok := x.Get(8); b != (api.Beat{Node: 8, Inc: c.is, Until: c.end}) || !ok {
			t.Errorf("behind Seen(8, %d, %d): Get(8) = %v, %t", c.inc, c.now, b, ok)
		}
	}
	for _, l := range lists(3, 0, 1, 2, 3, 4, 5, 6, 7, 8) {
		r := begin(t, 2)
		for _, n := range l {
			r.seen(1, n/3+1, n%3+10)
			r.all()
		}
		r.same()
		r.drain()
	}
}

// A beat is one node's: to see one again leaves the others as they are, each pair of nodes.
func TestBe1NodesApart(t *testing.T) {
	for a := range nodes {
		for b := range nodes {
			r := begin(t, 5)
			r.seen(a, 4, 20)
			r.seen(b, 6, 13)
			r.same()
			r.seen(a, 8, 9)
			r.same()
			r.seen(b, 8, 30)
			r.same()
			r.drop(a, 8)
			r.same()
			r.seen(a, 1, 50)
			r.due(40)
			r.same()
		}
	}
}

// bare are tables that New did not return.
func bare() map[string]*beat.Table {
	var parts struct {
		before [3]int
		x      beat.Table
		after  [3]int
	}
	refused, _ := beat.New(0)
	beyond, _ := beat.New(65)
	return map[string]*beat.Table{"nil": nil, "refused": refused, "beyond": beyond, "zero": new(beat.Table), "literal": {}, "part": &parts.x, "element": &make([]beat.Table, 3)[1]}
}

// A nil table and a zero one never have a beat, whatever they are asked; that comes ahead of what is wrong with the arguments.
func TestBe1NilAndZero(t *testing.T) {
	numbers := []int{api.MinInt, -2, -1, 0, 1, 2, 15, 16, 64, most, most + 1, last, last + 1, api.MaxInt}
	for name, x := range bare() {
		for _, node := range numbers {
			for _, inc := range numbers {
				for _, now := range numbers {
					if e := x.Seen(node, inc, now); e != api.ErrNone {
						t.Fatalf("%s: Seen(%d, %d, %d) = %v", name, node, inc, now, e)
					}
				}
				if x.Drop(node, inc) {
					t.Fatalf("%s: Drop(%d, %d)", name, node, inc)
				}
			}
			if l := x.Due(node); len(l) != 0 {
				t.Fatalf("%s: Due(%d) = %v", name, node, l)
			}
			if b, ok := x.Get(node); b != (api.Beat{}) || ok {
				t.Fatalf("%s: Get(%d) = %v, %t", name, node, b, ok)
			}
			if l := x.All(); len(l) != 0 {
				t.Fatalf("%s: All() = %v", name, l)
			}
		}
	}
}

// They answer so whatever is called first, and however often.
func TestBe1NilAndZeroFirst(t *testing.T) {
	for name, ok := range map[string]func(x *beat.Table) bool{
		"Seen":  func(x *beat.Table) bool { return x.Seen(3, 1, 0) == api.ErrNone },
		"wrong": func(x *beat.Table) bool { return x.Seen(-1, 0, -1) == api.ErrNone },
		"Drop":  func(x *beat.Table) bool { return !x.Drop(0, 0) && !x.Drop(3, 1) },
		"Due":   func(x *beat.Table) bool { return len(x.Due(last)) == 0 },
		"Get":   func(x *beat.Table) bool { b, ok := x.Get(0); return b == api.Beat{} && !ok },
		"All":   func(x *beat.Table) bool { return len(x.All()) == 0 },
	} {
		for which, x := range bare() {
			for range 3 {
				if !ok(x) {
					t.Errorf("%s of a table that has none (%s)", name, which)
				}
			}
			if _, is := x.Get(3); is || x.Drop(3, 1) || len(x.All()) != 0 || len(x.Due(api.MaxInt)) != 0 {
				t.Errorf("behind %s a table has a beat (%s)", name, which)
			}
		}
	}
}

// Be2

// Example 1.
func TestBe2Example(t *testing.T) {
	x, e := beat.New(5)
	if e != api.OK {
		t.Fatal(e)
	}
	if e := x.Seen(3, 1, 0); e != api.OK {
		t.Error(e)
	}
	if e := x.Seen(3, 1, 4); e != api.OK {
		t.Error(e)
	}
	if l := x.Due(8); len(l) != 0 {
		t.Errorf("Due(8) = %v", l)
	}
	if l := x.Due(9); !slices.Equal(l, []api.Beat{{Node: 3, Inc: 1, Until: 9}}) {
		t.Errorf("Due(9) = %v", l)
	}
}

// Only the incarnation that the beat has lets it be dropped, neither a lesser nor a greater one, each against each.
func TestBe2Drop(t *testing.T) {
	for _, was := range incs() {
		for _, inc := range slices.Concat(edges(), bits(), around(was)) {
			r := begin(t, 5)
			r.seen(4, was, 20)
			r.seen(5, 9, 20)
			if r.drop(4, inc) != (inc == was) {
				t.Fatal("the model is wrong")
			}
			r.same()
			r.drop(4, was)
			r.same()
			r.drop(4, was)
			r.drop(4, 0)
			r.all()
			r.due(api.MaxInt)
		}
	}
}

// Each number of a node, and others: what has no beat, and what is no node, is not dropped.
func TestBe2DropOfNodes(t *testing.T) {
	for _, r := range tables(t) {
		for _, node := range without(isNode, edges(), bits(), around(0), around(15)) {
			for _, inc := range []int{0, 1, 5, 6, 7, 8, most} {
				if r.drop(node, inc) {
					t.Fatal("the model is wrong")
				}
			}
		}
		r.same()
		for node := range nodes {
			for _, inc := range []int{-1, 0, 1, 4, 9, most - 1} {
				r.drop(node, inc)
			}
		}
		r.same()
		for node := range nodes {
			was := r.m.kept[node].Inc
			if had := was != 0; r.drop(node, was) != had || r.drop(node, was) {
				t.Fatal("the model is wrong")
			}
			r.same()
		}
		r.due(api.MaxInt)
	}
}

// Each of any number of nodes is dropped in turn, and once more: the others stay, and are due.
func TestBe2DropEach(t *testing.T) {
	for many := 1; many <= nodes; many++ {
		for node := range many {
			for _, step := range []int{0, 1, 5, 16} {
				r := begin(t, 7)
				for n := range many {
					r.seen(n, n+1, n*step)
				}
				r.drop(node, node+1)
				r.same()
				r.drop(node, node+1)
				r.drain()
			}
		}
	}
}

// What was dropped left nothing behind: any incarnation may be seen then, at any tick, and counts from there.
func TestBe2DropThenSeen(t *testing.T) {
	for _, inc := range []int{1, 6, 7, 8, most} {
		for _, now := range []int{0, 19, 20, 21, last} {
			r := begin(t, 5)
			r.seen(11, 7, 20)
			r.drop(11, 7)
			r.due(api.MaxInt)
			if r.seen(11, inc, now) != api.OK || r.m.kept[11].Until != end(now, 5) {
				t.Fatal("the model is wrong")
			}
			r.same()
			r.drop(11, 7)
			r.same()
			r.drain()
		}
	}
}

// Behind a new incarnation, the older one is there no more: it can't be dropped.
func TestBe2DropOfTheOlder(t *testing.T) {
	r := begin(t, 5)
	r.seen(3, 1, 20)
	r.seen(3, 2, 21)
	if r.drop(3, 1) {
		t.Fatal("the model is wrong")
	}
	r.same()
	r.seen(3, 1, 22)
	r.drop(3, 1)
	r.same()
	if !r.drop(3, 2) {
		t.Fatal("the model is wrong")
	}
	r.same()
	r.due(api.MaxInt)
}

// Each number is asked, of tables of all sorts; what is no node has no beat.
func TestBe2Get(t *testing.T) {
	x, _ := beat.New(5)
	x.Seen(0, 1, 0)
	x.Seen(15, 2, 1)
	for _, c := range []struct {
		node int
		want api.Beat
		is   bool
	}{
		{0, api.Beat{Node: 0, Inc: 1, Until: 5}, true}, {15, api.Beat{Node: 15, Inc: 2, Until: 6}, true},
		{1, api.Beat{}, false}, {14, api.Beat{}, false}, {-1, api.Beat{}, false}, {16, api.Beat{}, false}, {31, api.Beat{}, false}, {-16, api.Beat{}, false}, {api.MinInt, api.Beat{}, false}, {api.MaxInt, api.Beat{}, false},
	} {
		if b, ok := x.Get(c.node); b != c.want || ok != c.is {
			t.Errorf("Get(%d) = %v, %t", c.node, b, ok)
		}
	}
	for _, r := range tables(t) {
		for _, node := range slices.Concat(edges(), bits(), around(0), around(9), around(15)) {
			r.get(node)
		}
		r.drain()
	}
}

// All sets of nodes, seen from the least one on, from the greatest one on, and mixed: they are told in increasing order.
func TestBe2All(t *testing.T) {
	for set := range 1 << nodes {
		x, _ := beat.New(5)
		var want []api.Beat
		for n := range nodes {
			node := n
			switch set % 3 {
			case 1:
				node = nodes - 1 - n
			case 2:
				node = (n*7 + 5) % nodes
			}
			if set>>node&1 == 1 {
				x.Seen(node, n+1, set%40)
				want = append(want, api.Beat{Node: node, Inc: n + 1, Until: set%40 + 5})
			}
		}
		slices.SortFunc(want, func(a, b api.Beat) int { return a.Node - b.Node })
		if got := x.All(); !slices.Equal(got, want) {
			t.Fatalf("nodes %b: All() = %v; want %v", set, got, want)
		}
	}
}

// The order of All is by nodes, whatever the order of Until is.
func TestBe2AllByNodes(t *testing.T) {
	orders(6, func(l []int) {
		r := begin(t, 5)
		for n, node := range l {
			r.seen(node*3, n+1, 90-7*n)
			r.all()
		}
		r.same()
		for n, node := range l {
			r.drop(node*3, n+1)
			r.all()
		}
	})
}

// All, Get and a Due of nothing change nothing, however often they are asked.
func TestBe2AsksChangeNothing(t *testing.T) {
	for _, r := range tables(t) {
		for range 20 {
			r.same()
			r.due(-1)
			r.due(0)
			r.due(api.MinInt)
			r.drop(0, 0)
		}
		r.drain()
	}
}

// A beat is due at its Until and at any tick from there on, and not one tick ahead of it: each tick, each now.
func TestBe2DueByOneTick(t *testing.T) {
	for _, tick := range ticks() {
		until := end(tick, 5)
		for _, now := range slices.Concat(edges(), []int{tick, until - 16, until - 1, until, until + 1, until + 16}) {
			r := begin(t, 5)
			r.seen(9, 4, tick)
			l := r.due(now)
			if (len(l) == 1) != (until <= now) {
				t.Fatal("the model is wrong")
			}
			r.same()
			r.due(now)
			r.drain()
		}
	}
}

// An Until that is equal to now is due, one that is one more is not; both are there, and beside them what is due for long.
func TestBe2DueAboutNow(t *testing.T) {
	for _, now := range []int{6, 15, 16, 17, 100, 1 << 33, last - 2} {
		x, _ := beat.New(1)
		x.Seen(0, 1, now)
		x.Seen(1, 2, now-1)
		x.Seen(2, 3, now-2)
		x.Seen(3, 4, now)
		x.Seen(4, 5, now-1)
		if l := x.Due(now); !slices.Equal(l, []api.Beat{{Node: 2, Inc: 3, Until: now - 1}, {Node: 1, Inc: 2, Until: now}, {Node: 4, Inc: 5, Until: now}}) {
			t.Errorf("Due(%d) = %v", now, l)
		}
		if l := x.All(); !slices.Equal(l, []api.Beat{{Node: 0, Inc: 1, Until: now + 1}, {Node: 3, Inc: 4, Until: now + 1}}) {
			t.Errorf("behind Due(%d): All() = %v", now, l)
		}
		if l := x.Due(now); len(l) != 0 {
			t.Errorf("a second Due(%d) = %v", now, l)
		}
		if l := x.Due(now + 1); !slices.Equal(l, []api.Beat{{Node: 0, Inc: 1, Until: now + 1}, {Node: 3, Inc: 4, Until: now + 1}}) {
			t.Errorf("Due(%d) = %v", now+1, l)
		}
	}
}

// By Until first, in all orders in which the nodes were seen, whatever their numbers and incarnations are.
func TestBe2DueByUntil(t *testing.T) {
	for _, l := range [][]int{{0, 1, 2, 3, 4, 5}, {12, 13, 14, 15, 16, 17}, {3, 19, 35, 51, 67, 83}, {9, 24, 39, 54, 69, 84}, {0, 31, 1 << 20, 1 << 39, last - 8, last - 7}} {
		orders(len(l), func(in []int) {
			up, down := begin(t, 5), begin(t, 5)
			for _, n := range in {
				up.seen(n*3, 9-n, l[n])
				down.seen(15-n*3, n+1, l[n])
			}
			for n, b := range up.due(last) {
				if b.Node != n*3 {
					t.Fatal("the model is wrong")
				}
			}
			for n, b := range down.due(last) {
				if b.Node != 15-n*3 {
					t.Fatal("the model is wrong")
				}
			}
		})
	}
}

// With equal Until the numbers decide, in all orders in which the nodes were seen.
func TestBe2DueByNodes(t *testing.T) {
	ids := []int{0, 1, 5, 9, 10, 14, 15}
	for _, now := range []int{0, 21, last - 5, last} {
		orders(len(ids), func(l []int) {
			x, _ := beat.New(5)
			var want []api.Beat
			for _, node := range ids {
				want = append(want, api.Beat{Node: node, Inc: 20 - node, Until: min(now+5, last)})
			}
			for _, n := range l {
				x.Seen(ids[n], 20-ids[n], now)
			}
			if got := x.Due(api.MaxTick); !slices.Equal(got, want) {
				t.Fatalf("Due() = %v", got)
			}
		})
	}
}

// Ticks near the last one differ, but count until the same tick: the numbers decide.
func TestBe2DueByNodesAtMaxTick(t *testing.T) {
	for _, span := range []int{1, 5, 16, 64} {
		r := begin(t, span)
		for node := range nodes {
			r.seen(node, 3, last-node)
		}
		r.same()
		r.due(last - 1)
		r.all()
		r.due(last)
		r.due(last)
		r.same()
	}
}

// Few ticks on all nodes: Until first, then the number.
func TestBe2DueInOrder(t *testing.T) {
	for _, l := range lists(5, 2, 3, 2+16, 17) {
		for _, now := range []int{6, 7, 8, 21, 22, 23} {
			r := begin(t, 5)
			for n, at := range l {
				r.seen(n*7%16, n+1, at)
			}
			r.due(now)
			r.all()
			r.due(last)
		}
	}
}

// Each now, whatever it is, is taken as it is: below all ticks nothing is due, beyond them all.
func TestBe2DueAtAnyNumber(t *testing.T) {
	for _, now := range slices.Concat(edges(), bits()) {
		for _, r := range tables(t) {
			had := len(r.m.kept)
			l := r.due(now)
			if now < 0 && len(l) != 0 || now >= last && len(l) != had {
				t.Fatal("the model is wrong")
			}
			r.same()
			r.due(now)
			r.drain()
		}
	}
}

// What was returned is gone: any incarnation may be seen then, and nothing of what was before counts.
func TestBe2DueRemoves(t *testing.T) {
	for _, inc := range []int{1, 6, 7, 8, most} {
		for _, now := range []int{0, 19, 20, 24, 25, 26, last} {
			r := begin(t, 5)
			r.seen(3, 7, 20)
			r.seen(4, 7, 22)
			if l := r.due(25); len(l) != 1 {
				t.Fatal("the model is wrong")
			}
			r.drop(3, 7)
			r.same()
			if r.seen(3, inc, now) != api.OK {
				t.Fatal("the model is wrong")
			}
			r.same()
			r.due(25)
			r.same()
			r.seen(4, inc, now)
			r.same()
			r.drain()
		}
	}
}

// Nothing is due in a table without beats, be it so from the start, by Drop or by Due, however often.
func TestBe2DueOfNone(t *testing.T) {
	r := begin(t, 5)
	for n := range 40 {
		for _, now := range []int{api.MinInt, -1, 0, n, last, api.MaxInt} {
			r.due(now)
			r.all()
		}
		r.seen(n%nodes, n+1, n)
		r.drop(n%nodes, n+1)
		r.due(n + 5)
		r.seen(n%nodes, n+1, n)
		r.due(n + 5)
		r.due(n + 5)
		r.due(api.MaxInt)
		r.same()
	}
}

// What Due and All return is memory of its own: nobody's change of it shows in the table, or in what is returned later, nor the other way round.
func TestBe2GivesItsOwnMemory(t *testing.T) {
	x, _ := beat.New(5)
	fill := func(now int) {
		for node := range 4 {
			x.Seen(node, 1, now+node)
		}
	}
	want := func(now int) []api.Beat {
		return []api.Beat{{Node: 0, Inc: 1, Until: now + 5}, {Node: 1, Inc: 1, Until: now + 6}, {Node: 2, Inc: 1, Until: now + 7}, {Node: 3, Inc: 1, Until: now + 8}}
	}
	fill(10)
	first, second := x.All(), x.All()
	first[0], first[3] = api.Beat{Node: 9, Inc: 9, Until: 9}, api.Beat{}
	_ = append(first[:1], api.Beat{Inc: 77})
	if !slices.Equal(second, want(10)) || !slices.Equal(x.All(), want(10)) {
		t.Errorf("All: %v, %v", second, x.All())
	}
	third := x.Due(16)
	if !slices.Equal(second, want(10)) || !slices.Equal(third, want(10)[:2]) {
		t.Errorf("Due: %v, %v", second, third)
	}
	third[0].Until, third[1].Node = 99, 3
	_ = append(third, api.Beat{Inc: 77})
	fill(20)
	if !slices.Equal(x.All(), want(20)) {
		t.Errorf("All: %v", x.All())
	}
	fourth := x.Due(last)
	fourth[2] = api.Beat{}
	fill(0)
	if third[0].Until != 99 || third[1].Node != 3 || fourth[2] != (api.Beat{}) || !slices.Equal(x.Due(last), want(0)) {
		t.Errorf("returned %v and %v", third, fourth)
	}
}

// A node that is seen again in time is due later; one that is seen again when it was returned is due once more.
func TestBe2SeenAgain(t *testing.T) {
	r := begin(t, 5)
	r.seen(3, 1, 0)
	r.seen(4, 1, 0)
	r.seen(3, 1, 4)
	if l := r.due(5); len(l) != 1 || l[0].Node != 4 {
		t.Fatal("the model is wrong")
	}
	r.same()
	r.seen(4, 1, 5)
	r.same()
	if l := r.due(9); len(l) != 1 || l[0].Node != 3 {
		t.Fatal("the model is wrong")
	}
	if l := r.due(10); len(l) != 1 || l[0].Node != 4 {
		t.Fatal("the model is wrong")
	}
	r.same()
	r.seen(3, 1, 12) // past its Until, and not returned yet
	r.seen(3, 1, 18)
	r.same()
	if l := r.due(22); len(l) != 0 {
		t.Fatal("the model is wrong")
	}
	if l := r.due(23); len(l) != 1 {
		t.Fatal("the model is wrong")
	}
	r.same()
}

// The embedded wheel can be reached from outside, past Seen, with any number. Nothing is promised of a table then, but no call panics, all of them end, and what is no node has no beat.
func TestBe2WheelFromOutside(t *testing.T) {
	for _, id := range slices.Concat(edges(), bits()) {
		for _, fresh := range []func() *beat.Table{
			func() *beat.Table { return new(beat.Table) },
			func() *beat.Table { x, _ := beat.New(5); x.Seen(3, 2, 20); return x },
		} {
			x := fresh()
			x.Set(id, 7)
			if b, ok := x.Get(id); !isNode(id) && (b != api.Beat{} || ok || x.Drop(id, 0)) {
				t.Fatalf("Get(%d) = %v, %t", id, b, ok)
			}
			for _, b := range slices.Concat(x.All(), x.Due(7), x.Due(api.MaxInt)) {
				if !isNode(b.Node) {
					t.Fatalf("the table has %v", b)
				}
			}
			if l := x.Due(api.MaxInt); len(l) != 0 || x.Len() != 0 {
				t.Fatalf("Due() = %v", l)
			}
		}
	}
}

// Be3

// Whichever ticks the stops are, a node is returned at the first stop that is not ahead of its Until, and at no other one.
func TestBe3HoweverNowAdvances(t *testing.T) {
	const stops = 12
	for _, base := range []int{0, 3, 15, last - 40} {
		for set := range 1 << stops {
			x, _ := beat.New(3)
			for node := range nodes {
				x.Seen(node, node+1, base+node%9)
			}
			told := map[int]int{}
			for n := range stops {
				if set>>n&1 == 0 {
					continue
				}
				for _, b := range x.Due(base + n) {
					if at, is := told[b.Node]; is {
						t.Fatalf("base %d, stops %b: %v at %d, and at %d before", base, set, b, n, at)
					}
					told[b.Node] = n
				}
			}
			for node := range nodes {
				want := -1
				for n := stops - 1; n >= node%9+3; n-- {
					if set>>n&1 == 1 {
						want = n
					}
				}
				at, is := told[node]
				if is != (want >= 0) || is && at != want {
					t.Fatalf("base %d, stops %b: node %d at %d, %t; want %d", base, set, node, at, is, want)
				}
			}
		}
	}
}

// A node that sends a sign of life each so many ticks is due if, and only if, that is more than the span (or just the span, where Due comes first); then once, the span behind its last sign.
func TestBe3SignsOfLife(t *testing.T) {
	for _, span := range []int{1, 2, 5, 16, 64} {
		for _, every := range []int{1, span - 1, span, span + 1, 2*span + 1} {
			if every < 1 {
				continue
			}
			for _, dueFirst := range []bool{true, false} {
				x, _ := beat.New(span)
				heard, due := 0, 0
				for now := range 10 * every * span {
					hear := func() {
						if now%every == 0 {
							heard++
							if e := x.Seen(5, 1, now); e != api.OK {
								t.Fatal(e)
							}
						}
					}
					if !dueFirst {
						hear()
					}
					for _, b := range x.Due(now) {
						due++
						if b != (api.Beat{Node: 5, Inc: 1, Until: now}) || now%every != span%every {
							t.Fatalf("span %d, each %d ticks: %v is due at %d", span, every, b, now)
						}
					}
					if dueFirst {
						hear()
					}
				}
				want := 0
				if every > span || every == span && dueFirst {
					want = heard
					if every == span {
						want-- // the last sign still counts
					}
				}
				if due != want {
					t.Fatalf("span %d, each %d ticks, due first %t: due %d times of %d", span, every, dueFirst, due, heard)
				}
			}
		}
	}
}

// Once a node is silent, it is due the whole span later, and at no tick ahead of that; once, whatever else goes on.
func TestBe3Silent(t *testing.T) {
	for span := 1; span <= 64; span++ {
		for _, from := range []int{0, 1, 15, 16, 1 << 32, last - 200} {
			r := begin(t, span)
			for node := range nodes {
				r.seen(node, 2, from)
			}
			for now := from; now < from+2*span+3; now++ {
				for node := range nodes {
					if node%2 == 0 {
						r.seen(node, 2, now)
					}
					if node%4 == 1 {
						r.seen(node, 1, now) // the incarnation before: it is no sign of life of this one
					}
				}
				l := r.due(now)
				if now != from+span && len(l) != 0 && l[0].Inc == 2 || now == from+span && len(l) != 8 {
					t.Fatal("the model is wrong")
				}
			}
			r.same()
		}
	}
}

// A node's incarnations only increase as long as it has a beat: however many signs come late, the newest one stays.
func TestBe3OlderIncarnations(t *testing.T) {
	for seed := range 20 {
		mix := mixer(uint64(seed))
		r := begin(t, 64)
		var newest [nodes]int
		for now := range 2000 {
			node, inc := mix(nodes), mix(30)+1+now/100
			e := r.seen(node, inc, now)
			if (e == api.ErrFence) != (inc < newest[node]) {
				t.Fatal("the model is wrong")
			}
			newest[node] = max(newest[node], inc)
			if b, ok := r.x.Get(node); !ok || b.Inc != newest[node] {
				t.Fatalf("Get(%d) = %v, %t; the newest incarnation is %d", node, b, ok, newest[node])
			}
		}
		r.same()
		r.drain()
	}
}

// All runs of up to so many steps; what is asked, is asked after each one, or only behind the last one.
func shortRuns(t *testing.T, many int, ask bool) {
	steps := []func(r *trial){
		func(r *trial) { r.seen(1, 1, 4) },
		func(r *trial) { r.seen(1, 1, 6) },
		func(r *trial) { r.seen(1, 2, 5) },
		func(r *trial) { r.seen(0, 1, 4) },
		func(r *trial) { r.seen(0, 2, 4) },
		func(r *trial) { r.seen(1, 3, -1) },
		func(r *trial) { r.drop(0, 1) },
		func(r *trial) { r.drop(1, 1) },
		func(r *trial) { r.drop(1, 2) },
		func(r *trial) { r.due(8) },
		func(r *trial) { r.due(9) },
		func(r *trial) { r.due(10) },
	}
	numbers := make([]int, len(steps))
	for at := range numbers {
		numbers[at] = at
	}
	for _, run := range lists(many, numbers...) {
		r := begin(t, 5)
		for _, n := range run {
			steps[n](r)
			if ask {
				r.get(0)
				r.get(1)
				r.all()
			}
		}
		r.all()
		r.due(20)
		r.all()
	}
}

func TestBe3ShortRuns(t *testing.T) {
	shortRuns(t, 5, false)
	shortRuns(t, 4, true)
}

// Long runs in which nodes and incarnations are few or many, ticks fall close together or far apart, arguments are wrong at times, and now mostly advances.
func TestBe3LongRuns(t *testing.T) {
	for _, c := range []struct{ span, nodes, incs, stride int }{{1, 2, 2, 2}, {5, 3, 2, 3}, {5, nodes, 4, 3}, {16, nodes, 3, 9}, {64, nodes, 50, 20}, {64, nodes + 2, most, 5}, {7, nodes, 1, 1 << 30}} {
		mix := mixer(uint64(c.span + c.incs))
		r := begin(t, c.span)
		now := 0
		for n := range 5000 {
			node, inc := mix(c.nodes), mix(c.incs)+1
			if c.nodes > nodes {
				node--
			}
			switch mix(9) {
			case 0, 1, 2, 3:
				r.seen(node, inc, max(0, now+mix(c.span)-c.span/2))
			case 4:
				r.drop(node, inc)
			case 5:
				r.drop(node, r.m.kept[node].Inc)
			case 6:
				r.due(now)
				now += mix(c.stride)
			case 7:
				r.due(now - mix(c.span+1))
			default:
				r.seen(node, inc-mix(2), now-mix(40)/39*api.MaxInt)
			}
			r.get(node)
			r.all()
			if n%50 == 0 {
				r.same()
			}
		}
		r.same()
		r.drain()
	}
}

// The same calls on tables give the same answers, at any time, whatever was in them before.
func TestBe3SameCallsSameAnswers(t *testing.T) {
	var first [][]api.Beat
	for round := range 5 {
		mix := mixer(17)
		x, _ := beat.New(9)
		for n := range 30 * round {
			x.Seen(n%nodes, n+1, n*n)
		}
		x.Due(last)
		var told [][]api.Beat
		for now := range 600 {
			b, _ := x.Get(mix(nodes))
			answer := []api.Beat{b, {Inc: int(x.Seen(mix(nodes), mix(5)+1, now+mix(20)))}}
			if x.Drop(mix(nodes), mix(5)+1) {
				answer = append(answer, api.Beat{Until: 1})
			}
			if mix(5) == 0 {
				answer = append(answer, x.Due(now)...)
			}
			told = append(told, append(answer, x.All()...))
		}
		if round == 0 {
			first = told
		}
		for at := range told {
			if !slices.Equal(told[at], first[at]) {
				t.Fatalf("round %d, step %d: %v; before %v", round, at, told[at], first[at])
			}
		}
	}
}
