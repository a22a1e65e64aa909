package fence_test

import (
	"slices"
	"sync"
	"testing"

	"reeve/api"
	"reeve/fence"
)

// most is the greatest epoch.
const most = 1<<32 - 1

// model has a fence as the document tells of it.
type model struct{ epoch, passed, refused int }

func isEpoch(n int) bool { return n >= 1 && n <= most }

func (m *model) pass(epoch int) bool {
	if isEpoch(epoch) && !(epoch < m.epoch) {
		m.epoch = epoch
		m.passed++
		return true
	}
	m.refused++
	return false
}

// trial does with a fence from New, with a zero one, with ones that are a part of something else and with the model the same, and holds them against each other.
type trial struct {
	t      *testing.T
	fences []*fence.Fence
	m      *model
	steps  []int // the epochs that were to pass
}

// guarded embeds a fence, as what is guarded by one may.
type guarded struct {
	before [3]int
	fence.Fence
	after [3]int
}

func begin(t *testing.T) *trial {
	var g guarded
	return &trial{t: t, fences: []*fence.Fence{fence.New(), new(fence.Fence), &g.Fence, &make([]fence.Fence, 3)[1]}, m: &model{}}
}

// at begins with fences that an epoch passed.
func at(t *testing.T, epoch int) *trial {
	t.Helper()
	r := begin(t)
	r.pass(epoch)
	if r.m.epoch != epoch {
		t.Fatal("the model is wrong")
	}
	return r
}

// wrong ends the test, and tells what was done last.
func (r *trial) wrong(form string, args ...any) {
	r.t.Helper()
	r.t.Fatalf(form+"\nafter %d", append(args, r.steps[max(0, len(r.steps)-30):])...)
}

func (r *trial) pass(epoch int) bool {
	r.t.Helper()
	r.steps = append(r.steps, epoch)
	want := r.m.pass(epoch)
	for n, f := range r.fences {
		if got := f.Pass(epoch); got != want {
			r.wrong("fence %d: Pass(%d) = %t", n, epoch, got)
		}
	}
	return want
}

func (r *trial) epoch() {
	r.t.Helper()
	for n, f := range r.fences {
		if got := f.Epoch(); got != r.m.epoch {
			r.wrong("fence %d: Epoch() = %d; want %d", n, got, r.m.epoch)
		}
	}
}

func (r *trial) passed() {
	r.t.Helper()
	for n, f := range r.fences {
		if a, b := f.Passed(); a != r.m.passed || b != r.m.refused {
			r.wrong("fence %d: Passed() = %d, %d; want %d, %d", n, a, b, r.m.passed, r.m.refused)
		}
	}
}

// same asks all that can be asked without a change, and once more.
func (r *trial) same() {
	r.t.Helper()
	for range 2 {
		r.epoch()
		r.passed()
	}
	r.epoch()
}

// edges are the numbers at which epochs are likeliest to be told apart wrongly: about 0, about the document's limits, about the ends of numbers of fewer bits, and the ends of int.
func edges() []int {
	l := []int{api.MinInt, api.MinInt + 1, api.MaxInt - 1, api.MaxInt}
	for _, n := range []int{0, 3, 16, 64, 1 << 8, 1 << 15, 1 << 16, 1 << 24, 1 << 31, most, most + most/2, 2 * most, 3 << 32, api.MaxTick, 1 << 53, 1 << 62, api.MaxInt - most} {
		l = append(l, n-2, n-1, n, n+1, n+2, -n-1, -n, -n+1)
	}
	slices.Sort(l)
	return slices.Compact(l)
}

// epochs are those of the edges that are epochs.
func epochs() []int {
	return slices.DeleteFunc(edges(), func(n int) bool { return !isEpoch(n) })
}

// others are those of the edges and bits that are no epochs.
func others() []int {
	return slices.DeleteFunc(slices.Concat(edges(), bits()), isEpoch)
}

// bits are numbers that have, or lack, one bit, which a number that was made shorter would not tell apart.
func bits() []int {
	var l []int
	for bit := range 63 {
		l = append(l, 1<<bit, 1<<bit+5, 1<<bit-1, -1<<bit, -1<<bit+5, ^(1 << bit))
	}
	return append(l, api.MinInt, api.MinInt+5, api.MaxInt)
}

// around are the numbers about one, and those that differ from it in one bit.
func around(n int) []int {
	l := []int{n - 2, n - 1, n, n + 1, n + 2, -n, ^n, n / 2, 2 * n}
	for bit := range 64 {
		l = append(l, n^1<<bit)
	}
	return l
}

// mixer gives numbers below others, the same in each run.
func mixer(seed uint64) func(below int) int {
	x := seed
	return func(below int) int {
		x = x*6364136223846793005 + 1442695040888963407
		return int(x>>31) % below
	}
}

// lists are all that have up to so many of some numbers.
func lists(most int, numbers ...int) [][]int {
	all := [][]int{nil}
	from := 0
	for range most {
		to := len(all)
		for _, l := range all[from:to] {
			for _, n := range numbers {
				all = append(all, append(slices.Clone(l), n))
			}
		}
		from = to
	}
	return all
}

// together does something in several goroutines that start at once, and waits for them.
func together(many int, do func(n int)) {
	gate := make(chan struct{})
	var all sync.WaitGroup
	for n := range many {
		all.Go(func() {
			<-gate
			do(n)
		})
	}
	close(gate)
	all.Wait()
}

// row is many fences that an epoch passed, or none at 0. Goroutines that go along it together meet at each of its fences, while a single one they would mostly miss.
func row(epoch int) []fence.Fence {
	l := make([]fence.Fence, 1<<13)
	if epoch > 0 {
		for n := range l {
			l[n].Pass(epoch)
		}
	}
	return l
}

// counts are how many calls of Pass returned true, and how many false, at each fence of a row.
type counts [1 << 13][2]int

func (c *counts) add(at int, ok bool) {
	if ok {
		c[at][0]++
	} else {
		c[at][1]++
	}
}

// Fe1

// Example 1.
func TestFe1Example(t *testing.T) {
	f := fence.New()
	for n, c := range []struct {
		epoch int
		want  bool
	}{{3, true}, {2, false}, {3, true}} {
		if got := f.Pass(c.epoch); got != c.want {
			t.Errorf("call %d: Pass(%d) = %t", n, c.epoch, got)
		}
	}
	if n := f.Epoch(); n != 3 {
		t.Errorf("Epoch() = %d", n)
	}
	if a, b := f.Passed(); a != 2 || b != 1 {
		t.Errorf("Passed() = %d, %d", a, b)
	}
}

func TestFe1New(t *testing.T) {
	f := fence.New()
	if f == nil {
		t.Fatal("New() is nil")
	}
	for range 3 {
		if n := f.Epoch(); n != 0 {
			t.Errorf("Epoch() = %d", n)
		}
		if a, b := f.Passed(); a != 0 || b != 0 {
			t.Errorf("Passed() = %d, %d", a, b)
		}
	}
	if !f.Pass(1) {
		t.Error("the least epoch does not pass a new fence")
	}
	if api.MaxEpoch != most {
		t.Error("the greatest epoch is not the document's")
	}
}

// No epoch has passed a fence from New, whatever was done with those before it, and each keeps its own.
func TestFe1NewAnew(t *testing.T) {
	var all []*fence.Fence
	for n := range 60 {
		f := fence.New()
		if a, b := f.Passed(); f.Epoch() != 0 || a != 0 || b != 0 {
			t.Fatalf("fence %d: Epoch() = %d, Passed() = %d, %d", n, f.Epoch(), a, b)
		}
		if !f.Pass(100-n) || f.Pass(99-n) || n%2 == 0 && !f.Pass(200-n) {
			t.Fatalf("fence %d: Pass", n)
		}
		all = append(all, f)
	}
	for n, f := range all {
		epoch, passed := 100-n, 1
		if n%2 == 0 {
			epoch, passed = 200-n, 2
		}
		if a, b := f.Passed(); f.Epoch() != epoch || a != passed || b != 1 {
			t.Errorf("fence %d: Epoch() = %d, Passed() = %d, %d", n, f.Epoch(), a, b)
		}
	}
}

// Each number at a fence that no epoch has passed: all epochs pass, from the least to the greatest one, and nothing else.
func TestFe1PassFirst(t *testing.T) {
	for _, c := range []struct {
		epoch int
		want  bool
	}{
		{1, true}, {2, true}, {3, true}, {1 << 16, true}, {1<<31 - 1, true}, {1 << 31, true}, {1<<31 + 1, true}, {1<<32 - 2, true}, {1<<32 - 1, true},
		{0, false}, {-1, false}, {-2, false}, {1 << 32, false}, {1<<32 + 1, false}, {1<<33 - 1, false}, {1 << 40, false},
		{-1 << 31, false}, {-1<<32 + 1, false}, {-1 << 32, false}, {-1<<32 - 1, false}, {1 << 62, false}, {api.MaxInt, false}, {api.MinInt, false}, {api.MinInt + 1, false},
	} {
		f := fence.New()
		if got := f.Pass(c.epoch); got != c.want {
			t.Errorf("Pass(%d) = %t", c.epoch, got)
		}
		epoch, passed, refused := 0, 0, 1
		if c.want {
			epoch, passed, refused = c.epoch, 1, 0
		}
		if a, b := f.Passed(); f.Epoch() != epoch || a != passed || b != refused {
			t.Errorf("behind Pass(%d): Epoch() = %d, Passed() = %d, %d", c.epoch, f.Epoch(), a, b)
		}
	}
	for _, epoch := range slices.Concat(edges(), bits()) {
		r := begin(t)
		r.pass(epoch)
		r.same()
		r.pass(epoch)
		r.same()
	}
	for epoch := -300; epoch < 70000; epoch++ {
		r := begin(t)
		r.pass(epoch)
		r.epoch()
		r.passed()
	}
}

// Each number behind each epoch.
func TestFe1PassBehindAny(t *testing.T) {
	for _, from := range slices.Concat(epochs(), []int{77, 1<<20 + 3, 3 << 30}) {
		for _, epoch := range slices.Concat(edges(), bits(), around(from)) {
			r := at(t, from)
			if r.pass(epoch) != (epoch >= from && epoch <= most) {
				t.Fatal("the model is wrong")
			}
			r.same()
			r.pass(from)
			r.same()
		}
	}
}

// The greatest epoch that passed, the one before it and the one behind it, at each edge: the same one passes, again and again; the one before it does not; the one behind it does, and then the same one does not any more.
func TestFe1SameLessAndGreaterByOne(t *testing.T) {
	for _, from := range epochs() {
		f := fence.New()
		passed, refused := 0, 0
		hold := func(epoch, greatest int, want bool) {
			t.Helper()
			if want {
				passed++
			} else {
				refused++
			}
			got := f.Pass(epoch)
			if a, b := f.Passed(); got != want || f.Epoch() != greatest || a != passed || b != refused {
				t.Fatalf("from %d: Pass(%d) = %t, then Epoch() = %d, Passed() = %d, %d; want %d, %d", from, epoch, got, f.Epoch(), a, b, passed, refused)
			}
		}
		for range 5 {
			hold(from, from, true)
		}
		for range 3 {
			hold(from-1, from, false)
			hold(from, from, true)
		}
		if from == most {
			for range 3 {
				hold(from+1, from, false)
				hold(from, from, true)
			}
			continue
		}
		for range 3 {
			hold(from+1, from+1, true)
			hold(from, from+1, false)
			hold(from-1, from+1, false)
		}
	}
}

// What is no epoch does not pass, whichever epoch passed before, and leaves the greatest one.
func TestFe1NoEpochs(t *testing.T) {
	no := others()
	for _, n := range no {
		if n > 0 && n <= most {
			t.Fatal("an epoch")
		}
	}
	for _, from := range epochs() {
		r := at(t, from)
		for _, n := range no {
			if r.pass(n) {
				t.Fatal("the model is wrong")
			}
			r.epoch()
		}
		for bit := 32; bit < 64; bit++ { // what is left of these numbers in 32 bits is the epoch
			r.pass(from | 1<<bit)
			r.pass(from - 1<<bit)
			r.epoch()
		}
		r.same()
		r.pass(from)
		r.same()
	}
}

// What is no epoch does not pass a fence that no epoch has passed either, however often it is tried.
func TestFe1NoEpochsFirst(t *testing.T) {
	r := begin(t)
	for range 3 {
		for _, n := range others() {
			r.pass(n)
			r.epoch()
		}
		r.passed()
	}
	r.pass(1)
	r.same()
}

// Behind the greatest epoch only that one passes.
func TestFe1AtMaxEpoch(t *testing.T) {
	r := at(t, most)
	for _, epoch := range slices.Concat(edges(), bits(), around(most)) {
		if r.pass(epoch) != (epoch == most) {
			t.Fatal("the model is wrong")
		}
		r.epoch()
	}
	r.same()
	r = at(t, most-1)
	r.pass(most - 2)
	r.pass(most + 1)
	r.pass(most - 1)
	r.same()
	r.pass(most)
	r.pass(most - 1)
	r.same()
}

// All numbers of passes and of refusals, in blocks: each call counts once, where it belongs.
func TestFe1Counts(t *testing.T) {
	for a := range 24 {
		for b := range 24 {
			for _, first := range []bool{true, false} {
				f := fence.New()
				for n := range a + b {
					pass := n >= b
					if first {
						pass = n < a
					}
					epoch := 0
					if pass {
						epoch = n + 1
					}
					if f.Pass(epoch) != pass {
						t.Fatalf("Pass(%d)", epoch)
					}
				}
				if x, y := f.Passed(); x != a || y != b {
					t.Fatalf("%d passes and %d refusals: Passed() = %d, %d", a, b, x, y)
				}
			}
		}
	}
}

// A call counts as passed or as refused whichever way it got there: as the first epoch, the same or a greater one; as an older one, or as none.
func TestFe1CountsByWays(t *testing.T) {
	f := fence.New()
	for n, c := range []struct{ epoch, passed, refused int }{
		{0, 0, 1}, {most + 1, 0, 2}, {-1, 0, 3}, {5, 1, 3}, {5, 2, 3}, {4, 2, 4}, {1, 2, 5}, {0, 2, 6}, {6, 3, 6}, {5, 3, 7}, {100, 4, 7}, {100, 5, 7},
		{api.MinInt, 5, 8}, {api.MaxInt, 5, 9}, {most, 6, 9}, {most, 7, 9}, {most + 1, 7, 10}, {100, 7, 11}, {most - 1, 7, 12}, {most, 8, 12},
	} {
		f.Pass(c.epoch)
		if a, b := f.Passed(); a != c.passed || b != c.refused {
			t.Errorf("call %d: behind Pass(%d): Passed() = %d, %d; want %d, %d", n, c.epoch, a, b, c.passed, c.refused)
		}
	}
}

// Many calls: the same epoch, each one greater than the one before, only refusals, and all of these in turn.
func TestFe1ManyCalls(t *testing.T) {
	const many = 1<<20 + 7
	for name, c := range map[string]struct {
		epoch           func(n int) int
		greatest        int
		passed, refused int
	}{
		"same":    {func(n int) int { return 3 }, 3, many, 0},
		"greater": {func(n int) int { return n + 1 }, many, many, 0},
		"to the greatest": {func(n int) int {
			return most - many + 1 + n
		}, most, many, 0},
		"beyond the greatest": {func(n int) int {
			return most - 99 + n
		}, most, 100, many - 100},
		"no epoch": {func(n int) int { return -n }, 0, 0, many},
		"older":    {func(n int) int { return many - n }, many, 1, many - 1},
		"in turn": {func(n int) int {
			return []int{n/4 + 2, n / 4, n/4 + 2, n/4 + 1}[n%4]
		}, many/4 + 2, many/2 + 1, many / 2},
	} {
		f := fence.New()
		passed := 0
		for n := range many {
			if f.Pass(c.epoch(n)) {
				passed++
			}
			if a, b := f.Passed(); a != passed || b != n+1-passed {
				t.Fatalf("%s: behind %d calls: Passed() = %d, %d; want %d passes", name, n+1, a, b, passed)
			}
		}
		if a, b := f.Passed(); f.Epoch() != c.greatest || a != c.passed || b != c.refused {
			t.Errorf("%s: Epoch() = %d, Passed() = %d, %d; want %d, %d, %d", name, f.Epoch(), a, b, c.greatest, c.passed, c.refused)
		}
	}
}

// More calls than numbers of 24 bits can count.
func TestFe1MoreCalls(t *testing.T) {
	const many = 1<<24 + 9
	f := fence.New()
	for n := range many {
		if !f.Pass(7) || f.Pass(6) {
			t.Fatalf("call %d", n)
		}
	}
	if a, b := f.Passed(); f.Epoch() != 7 || a != many || b != many {
		t.Errorf("Epoch() = %d, Passed() = %d, %d; want %d of each", f.Epoch(), a, b, many)
	}
}

// Epoch and Passed change nothing, however often they are asked.
func TestFe1AsksChangeNothing(t *testing.T) {
	for _, epoch := range slices.Concat(epochs(), []int{0, -1, most + 1}) {
		r := begin(t)
		for range 20 {
			r.same()
		}
		r.pass(epoch)
		for range 100 {
			r.epoch()
		}
		for range 100 {
			r.passed()
		}
		r.pass(epoch)
		r.pass(epoch - 1)
		r.same()
	}
}

// A nil fence lets nothing pass, and counts nothing.
func TestFe1Nil(t *testing.T) {
	var f *fence.Fence
	for range 2 {
		for _, epoch := range slices.Concat(edges(), bits()) {
			if f.Pass(epoch) {
				t.Errorf("Pass(%d)", epoch)
			}
			if a, b := f.Passed(); f.Epoch() != 0 || a != 0 || b != 0 {
				t.Fatalf("behind Pass(%d): Epoch() = %d, Passed() = %d, %d", epoch, f.Epoch(), a, b)
			}
		}
	}
	if x := fence.New(); x.Epoch() != 0 || !x.Pass(1) {
		t.Error("a fence follows a nil one")
	}
}

// A nil fence answers so whatever is called first.
func TestFe1NilFirst(t *testing.T) {
	for name, ok := range map[string]func(f *fence.Fence) bool{
		"Pass":   func(f *fence.Fence) bool { return !f.Pass(5) },
		"Epoch":  func(f *fence.Fence) bool { return f.Epoch() == 0 },
		"Passed": func(f *fence.Fence) bool { a, b := f.Passed(); return a == 0 && b == 0 },
	} {
		if !ok(nil) {
			t.Errorf("%s of a nil fence", name)
		}
	}
}

// A zero fence, whatever is called first.
func TestFe1ZeroFirst(t *testing.T) {
	for name, first := range map[string]func(f *fence.Fence) bool{
		"Epoch":               func(f *fence.Fence) bool { return f.Epoch() == 0 && !f.Pass(0) && f.Pass(4) && f.Pass(4) },
		"Passed":              func(f *fence.Fence) bool { a, b := f.Passed(); return a+b == 0 && !f.Pass(0) && f.Pass(4) && f.Pass(4) },
		"Pass":                func(f *fence.Fence) bool { return f.Pass(4) && f.Pass(4) && !f.Pass(3) },
		"Pass of no epoch":    func(f *fence.Fence) bool { return !f.Pass(0) && f.Pass(4) && f.Pass(4) },
		"Pass of one beyond":  func(f *fence.Fence) bool { return !f.Pass(most+1) && f.Pass(4) && f.Pass(4) },
		"Pass of the least":   func(f *fence.Fence) bool { return f.Pass(1) && f.Pass(4) && !f.Pass(1) },
		"Pass of one below 0": func(f *fence.Fence) bool { return !f.Pass(-4) && f.Pass(4) && f.Pass(4) },
	} {
		for n, f := range []*fence.Fence{new(fence.Fence), {}, &make([]fence.Fence, 2)[1], &new(guarded).Fence, fence.New()} {
			if !first(f) {
				t.Errorf("%s first, fence %d", name, n)
			}
			if a, b := f.Passed(); f.Epoch() != 4 || a != 2 || b != 1 {
				t.Errorf("%s first, fence %d: Epoch() = %d, Passed() = %d, %d", name, n, f.Epoch(), a, b)
			}
		}
	}
}

// What embeds a fence is guarded by it, by the fence's own methods.
func TestFe1Embedded(t *testing.T) {
	var g guarded
	if g.Epoch() != 0 || !g.Pass(6) || g.Pass(5) || !g.Pass(6) || g.Epoch() != 6 {
		t.Errorf("Epoch() = %d", g.Epoch())
	}
	if a, b := g.Passed(); a != 2 || b != 1 {
		t.Errorf("Passed() = %d, %d", a, b)
	}
	if g.before != [3]int{} || g.after != [3]int{} {
		t.Error("what stands beside the fence has changed")
	}
}

// Zero fences that stand beside each other in memory do not touch each other.
func TestFe1ZeroParts(t *testing.T) {
	var parts struct {
		before int
		list   [5]fence.Fence
		after  int
	}
	for n := range parts.list {
		for epoch := range 10 * (n + 1) {
			if !parts.list[n].Pass(epoch + 1) {
				t.Fatalf("fence %d: Pass(%d)", n, epoch+1)
			}
		}
		for range n {
			parts.list[n].Pass(0)
		}
	}
	for n := range parts.list {
		f := &parts.list[n]
		if a, b := f.Passed(); f.Epoch() != 10*(n+1) || a != 10*(n+1) || b != n {
			t.Errorf("fence %d: Epoch() = %d, Passed() = %d, %d", n, f.Epoch(), a, b)
		}
	}
	if parts.before != 0 || parts.after != 0 {
		t.Error("what stands beside the fences has changed")
	}
}

// Fences side by side: what is done to one is not to be seen in the other one.
func TestFe1Apart(t *testing.T) {
	for _, l := range lists(5, 0, 1, 2, 3, 4, 5) {
		a, b := begin(t), begin(t)
		for _, what := range l {
			r := []*trial{a, b}[what%2]
			r.pass([]int{2, 3, 0}[what/2])
			a.same()
			b.same()
		}
		a.pass(2)
		b.pass(2)
		a.same()
		b.same()
	}
}

// Calls at once on fences, new ones among them: each one counts once, as what it returned.
func TestFe1CountsAtOnce(t *testing.T) {
	for _, from := range []int{0, 5, 0, 5} {
		l := row(from)
		var told [8]counts
		together(len(told), func(n int) {
			for at := range l {
				for k := range 6 {
					epoch := []int{from + 1, from, from - 1, from + 2, 0, from + n}[(k+n)%6]
					told[n].add(at, l[at].Pass(epoch))
				}
			}
		})
		for at := range l {
			passed, refused := min(from, 1), 0
			for n := range told {
				passed += told[n][at][0]
				refused += told[n][at][1]
			}
			if a, b := l[at].Passed(); a != passed || b != refused || a+b != min(from, 1)+48 || l[at].Epoch() != from+7 {
				t.Fatalf("fence %d: Passed() = %d, %d; want %d, %d; Epoch() = %d", at, a, b, passed, refused, l[at].Epoch())
			}
		}
	}
}

// Fe2

// Of all short lists of epochs, the ones that pass never decrease; each one passes if no greater one passed ahead of it, and only then. This is held against the epochs that passed, without the model.
func TestFe2NeverDecrease(t *testing.T) {
	for _, l := range lists(7, 1, 2, 3, 4) {
		f := fence.New()
		var through []int
		for _, epoch := range l {
			want := !slices.ContainsFunc(through, func(n int) bool { return n > epoch })
			if got := f.Pass(epoch); got != want {
				t.Fatalf("of %d, Pass(%d) = %t; %d passed", l, epoch, got, through)
			}
			if want {
				through = append(through, epoch)
			}
		}
		if !slices.IsSorted(through) {
			t.Fatalf("of %d passed %d", l, through)
		}
		if a, b := f.Passed(); a != len(through) || a+b != len(l) {
			t.Fatalf("%d: Passed() = %d, %d", l, a, b)
		}
	}
}

// An epoch that passed passes again behind anything that did not pass, however much of it.
func TestFe2PassesAgain(t *testing.T) {
	for _, from := range epochs() {
		r := at(t, from)
		for _, n := range slices.Concat(edges(), bits(), around(from)) {
			if isEpoch(n) && n > from {
				continue
			}
			r.pass(n)
			if !r.pass(from) {
				t.Fatal("the model is wrong")
			}
		}
		r.same()
		for range 100 {
			r.pass(from - 1)
		}
		r.pass(from)
		r.same()
	}
}

// An epoch that passed does not pass again behind a greater one, by however little or much it is greater.
func TestFe2NotBehindAGreaterOne(t *testing.T) {
	for _, from := range epochs() {
		for _, to := range slices.Concat(epochs(), []int{from + 1, from + 2, 2 * from, from + 1<<16, from + 1<<31}) {
			if to <= from || to > most {
				continue
			}
			r := at(t, from)
			r.pass(to)
			for range 3 {
				if r.pass(from) || r.pass(to-1) || !r.pass(to) {
					t.Fatal("the model is wrong")
				}
				r.epoch()
			}
			r.same()
		}
	}
}

// One epoch after the other, in increasing and in decreasing order, by steps of all widths.
func TestFe2InOrder(t *testing.T) {
	for bit := range 32 {
		step := 1 << bit
		up, down := begin(t), begin(t)
		for n := range min(most/step, 300) {
			up.pass(1 + n*step)
			up.epoch()
			down.pass(most - n*step)
			down.epoch()
		}
		up.same()
		down.same()
		if up.m.refused != 0 || down.m.passed != 1 {
			t.Fatal("the model is wrong")
		}
	}
}

// shortRuns are all lists of some numbers, with an ask behind each one, or only behind the last one.
func shortRuns(t *testing.T, length int, ask bool, numbers ...int) {
	for _, run := range lists(length, numbers...) {
		r := begin(t)
		for _, n := range run {
			r.pass(n)
			if ask {
				r.epoch()
				r.passed()
			}
		}
		r.same()
		r.pass(2)
		r.same()
	}
}

func TestFe2ShortRuns(t *testing.T) {
	shortRuns(t, 6, false, 0, 1, 2, 3, most, most+1)
	shortRuns(t, 5, true, 0, 1, 2, 3, most, most+1)
	shortRuns(t, 4, true, api.MinInt, -1, 0, 1, 2, 1<<31-1, 1<<31, most-1, most, most+1, api.MaxInt)
}

// Long runs of epochs about the greatest one that passed, with a leap now and then.
func TestFe2LongRuns(t *testing.T) {
	for _, c := range []struct{ first, width, leap, steps int }{
		{1, 3, 0, 4000}, {1, 10, 0, 4000}, {1, 1000, 0, 4000}, {1, 5, 1 << 16, 8000}, {1, 100, 1 << 22, 4000}, {1 << 31, 50, 0, 3000}, {1<<31 - 40, 4, 0, 3000}, {most - 600, 3, 0, 4000}, {most - 3, 8, 0, 1000},
	} {
		mix := mixer(uint64(c.first + c.width))
		r := at(t, c.first)
		for range c.steps {
			epoch := r.m.epoch + mix(c.width) - 3*c.width/4
			if c.leap > 0 && mix(50) == 0 {
				epoch += mix(c.leap)
			}
			r.pass(epoch)
			r.epoch()
			r.passed()
		}
		r.same()
		if r.m.passed == 0 || r.m.refused == 0 {
			t.Fatal("the run is too tame")
		}
	}
}

// Long runs of any numbers, and of any epochs.
func TestFe2WildRuns(t *testing.T) {
	all := slices.Concat(edges(), bits())
	for seed := range 30 {
		mix := mixer(uint64(seed))
		r, s := begin(t), begin(t)
		greatest := 0
		for range 300 {
			r.pass(all[mix(len(all))])
			r.epoch()
			epoch := 1 + mix(most)
			if s.pass(epoch) {
				if epoch < greatest {
					t.Fatalf("%d passes behind %d", epoch, greatest)
				}
				greatest = epoch
			}
			s.epoch()
		}
		r.same()
		s.same()
	}
}

// The same calls on fences that were made in different ways give the same answers.
func TestFe2SameCallsSameAnswers(t *testing.T) {
	var first []int
	for round := range 6 {
		mix := mixer(17)
		f := fence.New()
		if round%2 == 1 {
			f = new(fence.Fence)
		}
		for other := range round {
			x := fence.New()
			x.Pass(other * 100)
		}
		var told []int
		for range 500 {
			passes := 0
			if f.Pass(f.Epoch() + mix(10) - 6) {
				passes = 1
			}
			a, b := f.Passed()
			told = append(told, passes, f.Epoch(), a, b)
		}
		if round == 0 {
			first = told
		}
		if !slices.Equal(told, first) {
			t.Fatalf("round %d answers something else", round)
		}
	}
}

// Epochs that pass at once: none that a goroutine sees decreases; behind an epoch that was seen, no older one passes; and the greatest one that passed stays.
func TestFe2EpochsAtOnce(t *testing.T) {
	for range 4 {
		l := row(0)
		var greatest [8][1 << 13]int
		together(len(greatest), func(n int) {
			for at := range l {
				f := &l[at]
				before := 0
				for k := range 5 {
					epoch := 1 + 8*k + (n*3+k)%8
					if f.Pass(epoch) {
						if epoch < before {
							t.Errorf("fence %d: %d passes behind %d", at, epoch, before)
							return
						}
						greatest[n][at] = max(greatest[n][at], epoch)
					} else if f.Epoch() <= epoch {
						t.Errorf("fence %d: %d does not pass, and Epoch() = %d", at, epoch, f.Epoch())
						return
					}
					now := f.Epoch()
					if now < before || now < greatest[n][at] || f.Pass(now-1) {
						t.Errorf("fence %d: Epoch() = %d behind %d, and behind %d that passed", at, now, before, greatest[n][at])
						return
					}
					before = now
				}
			}
		})
		for at := range l {
			want := 0
			for n := range greatest {
				want = max(want, greatest[n][at])
			}
			if want != 40 || l[at].Epoch() != want {
				t.Fatalf("fence %d: Epoch() = %d; the greatest that passed is %d", at, l[at].Epoch(), want)
			}
		}
	}
}

// The same epoch at once passes for all.
func TestFe2SameEpochAtOnce(t *testing.T) {
	for _, epoch := range []int{1, 9, most} {
		for _, from := range []int{0, 1, epoch} {
			l := row(from)
			together(8, func(n int) {
				for at := range l {
					if !l[at].Pass(epoch) || !l[at].Pass(epoch) {
						t.Errorf("fence %d: %d does not pass again", at, epoch)
						return
					}
				}
			})
			for at := range l {
				if a, b := l[at].Passed(); l[at].Epoch() != epoch || a != 16+min(from, 1) || b != 0 {
					t.Fatalf("fence %d: Epoch() = %d, Passed() = %d, %d", at, l[at].Epoch(), a, b)
				}
			}
		}
	}
}

// Asks amid calls see a fence as it is between two calls: one that lets through and refuses in turn has as many of each, or one more that passed.
func TestFe2AsksAtOnce(t *testing.T) {
	const each = 1 << 17
	var f fence.Fence
	together(4, func(n int) {
		if n == 0 {
			for k := range each {
				if !f.Pass(k+1) || f.Pass(k) {
					t.Errorf("Pass about %d", k)
					return
				}
			}
			return
		}
		before := 0
		for range each {
			low := f.Epoch()
			a, b := f.Passed()
			high := f.Epoch()
			if a != b && a != b+1 || a+b < before || a < low || a > high {
				t.Errorf("Passed() = %d, %d behind a sum of %d, between Epoch() = %d and %d", a, b, before, low, high)
				return
			}
			before = a + b
		}
	})
	if a, b := f.Passed(); a != each || b != each || f.Epoch() != each {
		t.Fatalf("Epoch() = %d, Passed() = %d, %d", f.Epoch(), a, b)
	}
}
