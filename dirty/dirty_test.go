package dirty_test

import (
	"slices"
	"testing"

	"reeve/api"
	"reeve/dirty"
)

// model has the marked numbers as the document tells of them, in no order: each is looked for among all of them.
type model []int

func (m *model) mark(l ...int) int {
	before := len(*m)
	for _, n := range l {
		if !slices.Contains(*m, n) {
			*m = append(*m, n)
		}
	}
	return len(*m) - before
}

func (m *model) clean(n int) bool {
	at := slices.Index(*m, n)
	if at < 0 {
		return false
	}
	*m = slices.Delete(*m, at, at+1)
	return true
}

func (m *model) drain() []int {
	l := slices.Clone(*m)
	slices.Sort(l)
	*m = nil
	return l
}

// step is a call that may change a set.
type step struct {
	what string
	l    []int
}

// trial does with a set from New, with a zero one and with the model the same, and holds them against each other.
type trial struct {
	t     *testing.T
	sets  []*dirty.Set
	m     model
	steps []step
}

func begin(t *testing.T) *trial {
	return &trial{t: t, sets: []*dirty.Set{dirty.New(), new(dirty.Set)}}
}

// wrong ends the test, and tells what was done last.
func (r *trial) wrong(form string, args ...any) {
	r.t.Helper()
	r.t.Fatalf(form+"\nafter %v", append(args, r.steps[max(0, len(r.steps)-30):])...)
}

func (r *trial) mark(l ...int) {
	r.steps = append(r.steps, step{"mark", slices.Clone(l)})
	want := r.m.mark(l...)
	for n, s := range r.sets {
		if got := s.Mark(l...); got != want {
			r.wrong("set %d: Mark(%v) = %d; want %d", n, l, got, want)
		}
	}
}

func (r *trial) clean(n int) {
	r.steps = append(r.steps, step{"clean", []int{n}})
	want := r.m.clean(n)
	for at, s := range r.sets {
		if got := s.Clean(n); got != want {
			r.wrong("set %d: Clean(%d) = %t", at, n, got)
		}
	}
}

func (r *trial) drain() {
	r.steps = append(r.steps, step{what: "drain"})
	want := r.m.drain()
	for at, s := range r.sets {
		if got := s.Drain(); !slices.Equal(got, want) {
			r.wrong("set %d: Drain() = %v; want %v", at, got, want)
		}
	}
}

func (r *trial) has(n int) {
	want := slices.Contains(r.m, n)
	for at, s := range r.sets {
		if got := s.Has(n); got != want {
			r.wrong("set %d: Has(%d) = %t", at, n, got)
		}
	}
}

func (r *trial) size() {
	for at, s := range r.sets {
		if got := s.Len(); got != len(r.m) {
			r.wrong("set %d: Len() = %d; want %d", at, got, len(r.m))
		}
	}
}

// same asks all that can be asked without a change, of numbers that are marked and of others.
func (r *trial) same() {
	r.size()
	for _, n := range r.m {
		r.has(n)
		r.has(n + 1)
		r.has(n - 1)
		r.has(-n)
	}
	r.has(0)
	r.size()
}

// edges are the numbers at which a set of numbers is likeliest to be wrong: about 0, about the document's limits, about the ends of numbers of fewer bits, and the ends of int.
func edges() []int {
	l := []int{api.MinInt, api.MinInt + 1, api.MaxInt - 1, api.MaxInt}
	for _, n := range []int{0, 16, 64, 128, 256, 1 << 15, 1 << 16, 1 << 31, 1 << 32, 1 << 53, 1 << 62} {
		l = append(l, n-1, n, n+1, -n-1, -n, -n+1)
	}
	slices.Sort(l)
	return slices.Compact(l)
}

// mixer gives numbers below others, the same in each run.
func mixer(seed uint64) func(below int) int {
	x := seed
	return func(below int) int {
		x = x*6364136223846793005 + 1442695040888963407
		return int(x>>33) % below
	}
}

// orders hands out all orders of the numbers below n.
func orders(n int, do func(l []int)) {
	l := make([]int, n)
	for i := range l {
		l[i] = i
	}
	var from func(at int)
	from = func(at int) {
		if at == n {
			do(l)
			return
		}
		for i := at; i < n; i++ {
			l[at], l[i] = l[i], l[at]
			from(at + 1)
			l[at], l[i] = l[i], l[at]
		}
	}
	from(0)
}

// lists are all that have up to so many of some numbers.
func lists(most int, numbers ...int) [][]int {
	all := [][]int{nil}
	from := 0
	for range most {
		end := len(all)
		for _, l := range all[from:end] {
			for _, n := range numbers {
				all = append(all, append(slices.Clone(l), n))
			}
		}
		from = end
	}
	return all
}

// Di1

func TestDi1NewHasNoMarks(t *testing.T) {
	if dirty.New() == nil {
		t.Fatal("New() is nil")
	}
	r := begin(t)
	r.same()
	for _, n := range edges() {
		r.has(n)
		r.clean(n)
		r.size()
	}
	r.drain()
	r.same()
}

// Example 1.
func TestDi1Example(t *testing.T) {
	s := dirty.New()
	if got := s.Mark(3, 1, 3); got != 2 {
		t.Errorf("Mark(3, 1, 3) = %d", got)
	}
	if got := s.Drain(); !slices.Equal(got, []int{1, 3}) {
		t.Errorf("Drain() = %v", got)
	}
	if got := s.Drain(); len(got) != 0 {
		t.Errorf("Drain() = %v the second time", got)
	}
}

// All lists of up to five of four numbers, marked in sets that have any of these numbers already.
func TestDi1MarkTellsHowManyAreNew(t *testing.T) {
	for _, before := range lists(3, -1, 0, 1, 2) {
		for _, l := range lists(5, -1, 0, 1, 2) {
			r := begin(t)
			r.mark(before...)
			r.mark(l...)
			r.size()
			for n := -2; n <= 3; n++ {
				r.has(n)
			}
			r.mark(l...)
			r.drain()
		}
	}
}

// A number that stands twice in one Mark counts once, wherever its two places are and whatever else there is.
func TestDi1MarkTwiceInOne(t *testing.T) {
	for many := 2; many <= 40; many++ {
		for first := range many {
			for second := first + 1; second < many; second++ {
				r := begin(t)
				l := make([]int, many)
				for at := range l {
					l[at] = 7 - at
				}
				l[second] = l[first]
				r.mark(l...)
				if len(r.m) != many-1 {
					t.Fatal("the model is wrong")
				}
				r.size()
				r.mark(l[second])
				r.clean(l[first])
				r.clean(l[second])
				r.size()
			}
		}
	}
	for many := range 300 {
		s := dirty.New()
		if got := s.Mark(slices.Repeat([]int{5}, many)...); got != min(many, 1) || s.Len() != min(many, 1) {
			t.Fatalf("Mark of %d times 5 = %d, and %d are marked", many, got, s.Len())
		}
	}
}

// Without numbers nothing is marked, in an empty set as in another one, and the marks stay.
func TestDi1MarkWithoutNumbers(t *testing.T) {
	for _, none := range [][]int{nil, {}, make([]int, 0, 5), edges()[:0]} {
		r := begin(t)
		r.mark()
		r.mark(none...)
		r.same()
		r.drain()
		r.mark(none...)
		r.mark(4, -4)
		r.mark()
		r.mark(none...)
		r.same()
		r.drain()
		r.mark(none...)
		r.same()
		r.drain()
	}
}

// A number that is marked already is not new, however often, until its mark is removed.
func TestDi1MarkAgain(t *testing.T) {
	r := begin(t)
	for _, n := range edges() {
		for range 3 {
			r.mark(n)
			r.mark(n, n)
			r.size()
		}
		r.clean(n)
		r.has(n)
		r.mark(n)
		r.has(n)
	}
	r.mark(edges()...)
	r.same()
	r.drain()
	r.mark(edges()...)
	r.same()
}

// Any int may be marked, is told apart from each other one, and is marked alone.
func TestDi1AnyNumber(t *testing.T) {
	l := edges()
	for _, n := range l {
		r := begin(t)
		r.mark(n)
		for _, other := range l {
			r.has(other)
		}
		for _, other := range l {
			if other != n {
				r.clean(other)
			}
		}
		r.size()
		r.has(n)
		r.clean(n)
		for _, other := range l {
			r.has(other)
		}
		r.size()
	}
	r := begin(t)
	r.mark(l...)
	for at, n := range l {
		if at%2 == 0 {
			r.clean(n)
			r.same()
		}
	}
	for _, n := range l {
		r.has(n)
		r.clean(n)
		r.has(n)
	}
	r.same()
}

// Numbers that agree in their lower or in their upper bits are different numbers.
func TestDi1NumbersThatDifferInOneBit(t *testing.T) {
	for bit := range 64 {
		for _, n := range edges() {
			other := n ^ 1<<bit
			r := begin(t)
			r.mark(n)
			r.has(other)
			r.clean(other)
			r.mark(other)
			r.size()
			r.has(n)
			r.has(other)
			r.clean(n)
			r.has(n)
			r.has(other)
			r.size()
			r.drain()
		}
	}
}

// Each number of a set is cleaned in turn, and once more: the others stay.
func TestDi1CleanEach(t *testing.T) {
	for many := 1; many <= 40; many++ {
		for at := range many {
			r := begin(t)
			for n := range many {
				r.mark(3*n - 40)
			}
			r.clean(3*at - 40)
			r.same()
			r.clean(3*at - 40)
			r.same()
			r.drain()
		}
	}
}

// What is not marked is not cleaned, and nothing changes.
func TestDi1CleanOfNumbersThatAreNotMarked(t *testing.T) {
	r := begin(t)
	for n := range 20 {
		r.mark(3*n - 20)
	}
	for n := -40; n < 60; n++ {
		r.has(n)
		if !slices.Contains(r.m, n) {
			r.clean(n)
			r.size()
		}
	}
	for _, n := range edges() {
		if !slices.Contains(r.m, n) {
			r.clean(n)
		}
	}
	if len(r.m) != 20 {
		t.Fatal("the model is wrong")
	}
	r.same()
	for n := -40; n < 60; n++ {
		r.clean(n)
		r.clean(n)
		r.has(n)
		r.same()
	}
	r.drain()
}

// A number that was cleaned is not drained, and may be marked again.
func TestDi1CleanThenMark(t *testing.T) {
	for _, l := range lists(5, 1, 2, 3) {
		r := begin(t)
		r.mark(2, 3)
		for _, n := range l {
			r.clean(n)
			r.has(n)
			r.mark(n % 2)
			r.size()
		}
		r.same()
		r.drain()
		r.same()
	}
}

// Has and Len answer the same, however often they are asked, and change nothing.
func TestDi1HasAndLenWithoutAChange(t *testing.T) {
	s := dirty.New()
	s.Mark(5, -7, 0)
	for range 3 {
		for n := -50; n < 50; n++ {
			if got := s.Has(n); got != (n == 5 || n == -7 || n == 0) {
				t.Fatalf("Has(%d) = %t", n, got)
			}
			if s.Len() != 3 {
				t.Fatalf("%d are marked", s.Len())
			}
		}
	}
	if got := s.Drain(); !slices.Equal(got, []int{-7, 0, 5}) {
		t.Errorf("Drain() = %v", got)
	}
}

func TestDi1Len(t *testing.T) {
	s := dirty.New()
	for n := range 300 {
		if s.Mark(n*n, n*n); s.Len() != n+1 {
			t.Fatalf("%d are marked, want %d", s.Len(), n+1)
		}
		if s.Mark(n*n, 0); s.Len() != n+1 {
			t.Fatalf("%d are marked, want %d", s.Len(), n+1)
		}
	}
	for n := 299; n >= 0; n-- {
		if s.Clean(-1); s.Len() != n+1 {
			t.Fatalf("%d are marked, want %d", s.Len(), n+1)
		}
		if s.Clean(n * n); s.Len() != n {
			t.Fatalf("%d are marked, want %d", s.Len(), n)
		}
	}
	for many := range 100 {
		for n := range many {
			s.Mark(n)
		}
		if s.Len() != many {
			t.Fatalf("%d are marked, want %d", s.Len(), many)
		}
		if s.Drain(); s.Len() != 0 {
			t.Fatalf("%d are marked behind Drain", s.Len())
		}
	}
}

// The list that is marked is neither changed nor kept.
func TestDi1MarkLeavesItsList(t *testing.T) {
	s := dirty.New()
	whole := []int{9, 3, 1, 3, -2, 1, 8, 8}
	want := slices.Clone(whole)
	l := whole[1:6]
	if got := s.Mark(l...); got != 3 || !slices.Equal(whole, want) {
		t.Fatalf("Mark() = %d, and the list is %v", got, whole)
	}
	for at := range whole {
		whole[at] = 100 + at
	}
	if s.Has(101) || !s.Has(-2) || s.Len() != 3 {
		t.Error("the set follows the list")
	}
	got := s.Drain()
	if !slices.Equal(got, []int{-2, 1, 3}) {
		t.Errorf("Drain() = %v", got)
	}
	got[0] = 55
	if whole[4] != 104 {
		t.Error("the list follows what was drained")
	}
}

// What is done with one set does not show in another one.
func TestDi1SetsApart(t *testing.T) {
	a, b := begin(t), begin(t)
	for n := range 30 {
		a.mark(n, -n)
		b.mark(n+10, 5)
		b.clean(n)
		a.clean(-n / 2)
		a.same()
		b.same()
	}
	a.drain()
	b.same()
	b.drain()
	a.mark(1)
	b.same()
	b.mark(1)
	b.clean(1)
	a.same()
}

func TestDi1NilSet(t *testing.T) {
	var s *dirty.Set
	for _, n := range append(edges(), 0, 0) {
		if got := s.Mark(); got != 0 {
			t.Errorf("Mark() = %d", got)
		}
		if got := s.Mark(n); got != 0 {
			t.Errorf("Mark(%d) = %d", n, got)
		}
		if got := s.Mark(n, 1, n, 2); got != 0 {
			t.Errorf("Mark(%d, 1, %d, 2) = %d", n, n, got)
		}
		if s.Has(n) || s.Clean(n) || s.Has(n) {
			t.Errorf("%d is marked", n)
		}
		if s.Len() != 0 {
			t.Errorf("%d are marked", s.Len())
		}
		if l := s.Drain(); len(l) != 0 {
			t.Errorf("Drain() = %v", l)
		}
	}
	if s.Mark(edges()...) != 0 || s.Len() != 0 || len(s.Drain()) != 0 {
		t.Error("a nil set has marks")
	}
}

// A zero set is one without marks, whichever call comes first; one that is a part of something else, too.
func TestDi1ZeroSet(t *testing.T) {
	for n, first := range []func(s *dirty.Set) bool{
		func(s *dirty.Set) bool { return s.Mark() == 0 },
		func(s *dirty.Set) bool { return s.Mark(3, 3) == 1 && s.Clean(3) },
		func(s *dirty.Set) bool { return s.Mark(3) == 1 && len(s.Drain()) == 1 },
		func(s *dirty.Set) bool { return !s.Clean(0) },
		func(s *dirty.Set) bool { return !s.Has(0) },
		func(s *dirty.Set) bool { return s.Len() == 0 },
		func(s *dirty.Set) bool { return len(s.Drain()) == 0 },
	} {
		var parts struct {
			dirty.Set
			list [2]dirty.Set
		}
		for _, s := range []*dirty.Set{new(dirty.Set), {}, &parts.Set, &parts.list[1]} {
			if !first(s) {
				t.Errorf("first call %d", n)
			}
			r := &trial{t: t, sets: []*dirty.Set{s}}
			r.same()
			r.clean(3)
			r.mark(2, 0, 2)
			r.mark(-1, 0)
			r.same()
			r.drain()
			r.same()
			r.drain()
		}
		if parts.Len() != 0 || parts.list[0].Len() != 0 {
			t.Error("a part follows another one")
		}
	}
}

// Di2

// All orders of few numbers, of which some are negative: what is drained is in increasing order.
func TestDi2DrainInOrder(t *testing.T) {
	for many := range 8 {
		orders(many, func(l []int) {
			one, each := dirty.New(), new(dirty.Set)
			var want []int
			for at := range l {
				want = append(want, 5*at-12)
			}
			numbers := make([]int, len(l))
			for at, n := range l {
				numbers[at] = 5*n - 12
				each.Mark(5*n - 12)
			}
			if got := one.Mark(numbers...); got != many {
				t.Fatalf("Mark(%v) = %d", numbers, got)
			}
			for _, s := range []*dirty.Set{one, each} {
				if got := s.Drain(); !slices.Equal(got, want) {
					t.Fatalf("Drain() = %v behind %v", got, numbers)
				}
			}
		})
	}
}

// Numbers of all sizes are in order, up to the ends of int, from whichever side they come.
func TestDi2DrainEdges(t *testing.T) {
	l := edges()
	for turn := range l {
		turned := slices.Concat(l[turn:], l[:turn])
		for range 2 {
			s := dirty.New()
			if got := s.Mark(turned...); got != len(l) {
				t.Fatalf("Mark() = %d; want %d", got, len(l))
			}
			if got := s.Drain(); !slices.Equal(got, l) {
				t.Fatalf("Drain() = %v; want %v", got, l)
			}
			slices.Reverse(turned)
		}
	}
	for _, a := range l {
		for _, b := range l {
			s := dirty.New()
			s.Mark(a, b)
			want := slices.Compact([]int{min(a, b), max(a, b)})
			if got := s.Drain(); !slices.Equal(got, want) {
				t.Fatalf("Drain() = %v; want %v", got, want)
			}
		}
	}
}

// All marks are gone behind a Drain: each number is as if it had never been marked.
func TestDi2DrainRemovesAll(t *testing.T) {
	for _, l := range append(lists(4, -3, 0, 4), edges()) {
		r := begin(t)
		for range 3 {
			r.mark(l...)
			r.drain()
			r.size()
			for _, n := range l {
				r.has(n)
				r.clean(n)
			}
			r.same()
			r.mark(l...)
			r.same()
			r.drain()
			r.drain()
			r.same()
		}
	}
}

// Nothing is drained from an empty set, be it empty from the start, by Clean or by Drain, however often.
func TestDi2DrainEmpty(t *testing.T) {
	r := begin(t)
	for n := -5; n < 5; n++ {
		for range 3 {
			r.drain()
			r.size()
		}
		r.mark(n)
		r.clean(n)
		r.drain()
		r.drain()
		r.mark(n, 7)
		r.drain()
		r.drain()
		r.mark()
		r.drain()
		r.same()
	}
}

// Sets of all sizes are drained as they are, of those that were larger before, too.
func TestDi2DrainAllSizes(t *testing.T) {
	r := begin(t)
	for many := range 200 {
		for _, size := range []int{many, 200 - many} {
			for n := range size {
				r.mark((n*7919 + many) % 10007)
			}
			if many%3 == 0 {
				r.clean(many % 10007)
			}
			r.size()
			r.drain()
			r.size()
		}
	}
}

// What is drained is memory of its own: nobody's change of it shows in the set, or in what is drained later, nor the other way round.
func TestDi2DrainGivesItsOwnMemory(t *testing.T) {
	s := dirty.New()
	s.Mark(3, 1, 2)
	first := s.Drain()
	for at := range first {
		first[at] = 50 + at
	}
	_ = append(first[:1], 60, 61)
	if s.Len() != 0 || s.Has(50) || s.Has(60) {
		t.Error("the set follows what was drained")
	}
	s.Mark(1, 2, 3)
	second := s.Drain()
	if !slices.Equal(second, []int{1, 2, 3}) || !slices.Equal(first, []int{50, 60, 61}) {
		t.Errorf("drained %v and %v", first, second)
	}
	s.Mark(7, 8, 9)
	third := s.Drain()
	third[0] = 77
	_ = append(third, 78, 79)
	_ = append(second, 80)
	if !slices.Equal(second, []int{1, 2, 3}) || !slices.Equal(third, []int{77, 8, 9}) || s.Len() != 0 {
		t.Errorf("drained %v and %v", second, third)
	}
}

// Di3

// The same numbers, in each order, and divided among calls of Mark in each way, are drained alike.
func TestDi3OrderOfMarking(t *testing.T) {
	numbers := []int{api.MinInt, -1, 0, 7, api.MaxInt}
	orders(len(numbers), func(l []int) {
		for cuts := range 1 << len(l) {
			s := dirty.New()
			var call []int
			marked := 0
			for at, n := range l {
				call = append(call, numbers[n])
				if cuts>>at&1 == 1 {
					marked += s.Mark(call...)
					call = nil
				}
			}
			marked += s.Mark(call...)
			if marked != len(numbers) {
				t.Fatalf("%d were new, in order %v by cuts %b", marked, l, cuts)
			}
			if got := s.Drain(); !slices.Equal(got, numbers) {
				t.Fatalf("Drain() = %v, in order %v by cuts %b", got, l, cuts)
			}
		}
	})
}

// The second of two Drains gives what was marked between them, each number once: not what was marked before, unless it was marked again.
func TestDi3MarksBetweenTwoDrains(t *testing.T) {
	for _, before := range lists(3, -2, 5, 6) {
		for _, between := range lists(5, -2, 5, 9) {
			s := dirty.New()
			s.Mark(before...)
			s.Drain()
			for _, n := range between {
				s.Mark(n)
			}
			want := slices.Clone(between)
			slices.Sort(want)
			want = slices.Compact(want)
			if got := s.Drain(); !slices.Equal(got, want) {
				t.Fatalf("Drain() = %v; before %v, between %v", got, before, between)
			}
			if got := s.Drain(); len(got) != 0 {
				t.Fatalf("Drain() = %v; nothing was marked since", got)
			}
		}
	}
}

// What is asked and cleaned between two Drains adds nothing to the second one.
func TestDi3CleansBetweenTwoDrains(t *testing.T) {
	for _, between := range lists(6, 1, -2, 0) {
		r := begin(t)
		r.mark(1, 2)
		r.drain()
		for _, n := range between {
			switch {
			case n < 0:
				r.clean(1)
				r.clean(2)
			default:
				r.mark(n, 3)
			}
			r.has(2)
			r.size()
		}
		r.drain()
		r.drain()
	}
}

// All runs of up to so many steps; what is asked, is asked after each one, or only behind the last one.
func shortRuns(t *testing.T, most int, ask bool) {
	steps := []func(r *trial){
		func(r *trial) { r.mark(1) },
		func(r *trial) { r.mark(-1) },
		func(r *trial) { r.mark(2, 1, 2) },
		func(r *trial) { r.mark() },
		func(r *trial) { r.clean(1) },
		func(r *trial) { r.clean(2) },
		func(r *trial) { r.clean(0) },
		func(r *trial) { r.drain() },
	}
	numbers := make([]int, len(steps))
	for at := range numbers {
		numbers[at] = at
	}
	for _, run := range lists(most, numbers...) {
		r := begin(t)
		for _, n := range run {
			steps[n](r)
			if ask {
				r.same()
			}
		}
		r.same()
		r.drain()
		r.drain()
	}
}

func TestDi3ShortRuns(t *testing.T) {
	shortRuns(t, 5, false)
	shortRuns(t, 4, true)
}

// Long runs in which the numbers are few, so that they are often marked already, or many; with many Drains or few.
func TestDi3LongRuns(t *testing.T) {
	for _, c := range []struct{ numbers, drains, steps int }{{3, 5, 4000}, {20, 10, 4000}, {64, 100, 4000}, {300, 30, 3000}, {300, 1000, 3000}, {1 << 30, 50, 2000}} {
		mix := mixer(uint64(c.numbers + c.drains))
		number := func() int { return mix(c.numbers) - c.numbers/3 }
		r := begin(t)
		for n := range c.steps {
			switch mix(6) {
			case 0, 1:
				r.mark(number())
			case 2:
				r.mark(number(), number(), number())
			case 3:
				r.mark()
				r.clean(number())
			case 4:
				if len(r.m) > 0 {
					r.clean(r.m[mix(len(r.m))])
				}
			}
			if mix(c.drains) == 0 {
				r.drain()
			}
			r.size()
			r.has(number())
			if n%50 == 0 {
				r.same()
			}
		}
		r.same()
		r.drain()
		r.drain()
	}
}

// So many that a search of all for each one would not end.
func TestDi3Many(t *testing.T) {
	const many = 1 << 17
	s := dirty.New()
	for range 2 {
		for n := range many {
			if got := s.Mark(n * 40503 % many); got != 1 {
				t.Fatalf("Mark() = %d", got)
			}
		}
		l := make([]int, many+2)
		for n := range l {
			l[n] = many - n
		}
		if got := s.Mark(l...); got != 2 {
			t.Fatalf("Mark() = %d", got)
		}
		for n := 0; n < many; n += 3 {
			if !s.Clean(n) || s.Clean(n) || s.Has(n) || !s.Has(n+1) {
				t.Fatalf("Clean(%d)", n)
			}
		}
		size := s.Len()
		got := s.Drain()
		var want []int
		for n := -1; n <= many; n++ {
			if n%3 != 0 || n == many {
				want = append(want, n)
			}
		}
		if size != len(want) || !slices.Equal(got, want) || s.Len() != 0 {
			t.Fatalf("%d were marked, %d drained; want %d", size, len(got), len(want))
		}
		if l := s.Drain(); len(l) != 0 {
			t.Fatalf("%d are left", len(l))
		}
	}
}

// The same calls on two sets give the same answers, at any time; and so do two that were filled in different ways.
func TestDi3SameCallsSameAnswers(t *testing.T) {
	var first [][]int
	for round := range 5 {
		mix := mixer(31)
		s := dirty.New()
		for n := range 100 * round {
			s.Mark(n)
		}
		s.Drain()
		var told [][]int
		for range 400 {
			answer := []int{s.Mark(mix(50)-25, mix(50)-25), s.Len()}
			if s.Clean(mix(50) - 25) {
				answer = append(answer, 1)
			}
			if mix(7) == 0 {
				answer = append(answer, s.Drain()...)
			}
			told = append(told, answer)
		}
		told = append(told, s.Drain())
		if round == 0 {
			first = told
		}
		for at := range told {
			if !slices.Equal(told[at], first[at]) {
				t.Fatalf("round %d, step %d: %v; before %v", round, at, told[at], first[at])
			}
		}
	}
}
