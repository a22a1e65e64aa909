package clock_test

import (
	"slices"
	"sync"
	"testing"

	"reeve/api"
	"reeve/clock"
)

// last is the last tick.
const last = 1 << 40

// model has a clock as the document tells of it.
type model struct {
	now     int
	stopped bool
}

// within is a number limited to the range from 0 to the last tick.
func within(n int) int {
	if n > last {
		n = last
	}
	if n < 0 {
		n = 0
	}
	return n
}

func (m *model) tick(by int) int {
	if !m.stopped {
		m.now = within(within(m.now) + within(by))
	}
	return m.now
}

func (m *model) stop() bool {
	ran := !m.stopped
	m.stopped = true
	return ran
}

// step is a call that may change a clock.
type step struct {
	what string
	l    []int
}

// trial does with a clock from New, with a zero one, with one that is a part of something else and with the model the same, and holds them against each other.
type trial struct {
	t      *testing.T
	clocks []*clock.Clock
	m      *model
	steps  []step
}

func begin(t *testing.T) *trial {
	var parts struct {
		before [3]int
		c      clock.Clock
		after  [3]int
	}
	return &trial{t: t, clocks: []*clock.Clock{clock.New(), new(clock.Clock), &parts.c}, m: &model{}}
}

// at begins with clocks that run at a tick.
func at(t *testing.T, tick int) *trial {
	r := begin(t)
	r.tick(tick)
	return r
}

// wrong ends the test, and tells what was done last.
func (r *trial) wrong(form string, args ...any) {
	r.t.Helper()
	r.t.Fatalf(form+"\nafter %v", append(args, r.steps[max(0, len(r.steps)-30):])...)
}

func (r *trial) tick(by int) {
	r.steps = append(r.steps, step{"tick", []int{by}})
	want := r.m.tick(by)
	for n, c := range r.clocks {
		if got := c.Tick(by); got != want {
			r.wrong("clock %d: Tick(%d) = %d; want %d", n, by, got, want)
		}
	}
}

func (r *trial) stop() {
	r.steps = append(r.steps, step{"stop", nil})
	want := r.m.stop()
	for n, c := range r.clocks {
		if got := c.Stop(); got != want {
			r.wrong("clock %d: Stop() = %t", n, got)
		}
	}
}

func (r *trial) now() {
	for n, c := range r.clocks {
		if got := c.Now(); got != r.m.now {
			r.wrong("clock %d: Now() = %d; want %d", n, got, r.m.now)
		}
	}
}

func (r *trial) stopped() {
	for n, c := range r.clocks {
		if got := c.Stopped(); got != r.m.stopped {
			r.wrong("clock %d: Stopped() = %t", n, got)
		}
	}
}

// same asks all that can be asked without a change, and once more.
func (r *trial) same() {
	for range 2 {
		r.now()
		r.stopped()
	}
	r.now()
}

// edges are the numbers at which ticks are likeliest to be told apart wrongly: about 0, about the document's limits, about the ends of numbers of fewer bits, and the ends of int.
func edges() []int {
	l := []int{api.MinInt, api.MinInt + 1, api.MaxInt - 1, api.MaxInt}
	for _, n := range []int{0, 3, 16, 64, 1 << 8, 1 << 15, 1 << 16, 1 << 31, 1 << 32, 1 << 39, last, last + last/2, 2 * last, 1 << 53, 1 << 62, api.MaxInt - last} {
		l = append(l, n-1, n, n+1, -n-1, -n, -n+1)
	}
	slices.Sort(l)
	return slices.Compact(l)
}

// ticks are those of the edges that are ticks.
func ticks() []int {
	return slices.DeleteFunc(edges(), func(n int) bool { return n < 0 || n > last })
}

// bits are numbers that have, or lack, one bit, which a number that was made shorter would not tell apart.
func bits() []int {
	var l []int
	for bit := range 63 {
		l = append(l, 1<<bit, 1<<bit+5, 1<<bit-1, -1<<bit, -1<<bit+5, ^(1 << bit))
	}
	return append(l, api.MinInt, api.MinInt+5, api.MaxInt)
}

// mixer gives numbers below others, the same in each run.
func mixer(seed uint64) func(below int) int {
	x := seed
	return func(below int) int {
		x = x*6364136223846793005 + 1442695040888963407
		return int(x>>33) % below
	}
}

// lists are all that have up to so many of some numbers.
func lists(most int, numbers ...int) [][]int {
	all := [][]int{nil}
	from := 0
	for range most {
		end := len(all)
		for _, l := range all[from:end] {
			for _, n := range numbers {
				all = append(all, append(slices.Clone(l), n))
			}
		}
		from = end
	}
	return all
}

// Cl1

// Example 1.
func TestCl1Example(t *testing.T) {
	c := clock.New()
	c.Tick(3)
	c.Tick(-1)
	c.Stop()
	if n := c.Tick(5); n != 3 {
		t.Errorf("Tick(5) = %d", n)
	}
}

func TestCl1New(t *testing.T) {
	c := clock.New()
	if c == nil {
		t.Fatal("New() is nil")
	}
	for range 3 {
		if n := c.Now(); n != 0 {
			t.Errorf("Now() = %d", n)
		}
		if c.Stopped() {
			t.Error("a new clock is stopped")
		}
	}
	if n := c.Tick(1); n != 1 {
		t.Errorf("a new clock doesn't run: Tick(1) = %d", n)
	}
}

// A clock from New runs at 0, whatever was done with those ahead of it.
func TestCl1NewAnew(t *testing.T) {
	var all []*clock.Clock
	for n := range 50 {
		c := clock.New()
		if c.Now() != 0 || c.Stopped() {
			t.Fatalf("clock %d: Now() = %d, Stopped() = %t", n, c.Now(), c.Stopped())
		}
		c.Tick(n + 1)
		if n%2 == 0 {
			c.Stop()
		}
		all = append(all, c)
	}
	for n, c := range all {
		if c.Now() != n+1 || c.Stopped() != (n%2 == 0) {
			t.Errorf("clock %d: Now() = %d, Stopped() = %t", n, c.Now(), c.Stopped())
		}
	}
}

// The tick by each number, from the tick 0: what is below 0 counts as 0, what is beyond the last tick as that.
func TestCl1TickFrom0(t *testing.T) {
	for _, c := range []struct{ by, want int }{
		{0, 0}, {1, 1}, {2, 2}, {10, 10}, {1 << 16, 1 << 16}, {1 << 31, 1 << 31}, {1<<32 + 1, 1<<32 + 1}, {last - 1, last - 1}, {last, last},
		{-1, 0}, {-2, 0}, {-last, 0}, {-last - 1, 0}, {api.MinInt, 0}, {api.MinInt + 1, 0},
		{last + 1, last}, {2 * last, last}, {1 << 62, last}, {api.MaxInt - 1, last}, {api.MaxInt, last},
	} {
		for _, x := range []*clock.Clock{clock.New(), new(clock.Clock)} {
			if got := x.Tick(c.by); got != c.want {
				t.Errorf("Tick(%d) = %d; want %d", c.by, got, c.want)
			}
			if x.Now() != c.want || x.Stopped() {
				t.Errorf("behind Tick(%d): Now() = %d, Stopped() = %t", c.by, x.Now(), x.Stopped())
			}
		}
	}
	for _, by := range slices.Concat(edges(), bits()) {
		r := begin(t)
		r.tick(by)
		r.same()
	}
}

// Each number from each tick.
func TestCl1TickFromAny(t *testing.T) {
	for _, from := range ticks() {
		for _, by := range slices.Concat(edges(), bits(), []int{last - from - 1, last - from, last - from + 1, -from, -from - 1, api.MaxInt - from, api.MaxInt - from + 1}) {
			r := at(t, from)
			r.same()
			r.tick(by)
			r.same()
			if r.m.now < from {
				t.Fatal("the model is wrong")
			}
		}
	}
}

// Small numbers one after the other add up; and so do three of any.
func TestCl1TicksAddUp(t *testing.T) {
	for _, l := range lists(5, 0, 1, 2, 7, -1) {
		r := begin(t)
		sum := 0
		for _, by := range l {
			r.tick(by)
			r.now()
			sum += max(by, 0)
		}
		r.same()
		if r.m.now != sum {
			t.Fatal("the model is wrong")
		}
	}
	some := []int{api.MinInt, -last, -1, 0, 1, last / 2, last - 1, last, last + 1, api.MaxInt}
	for _, l := range lists(4, some...) {
		r := begin(t)
		for _, by := range l {
			r.tick(by)
			r.now()
		}
		r.same()
	}
}

// At the last tick, and one or two ahead of it, the clock goes no further than there, and still runs.
func TestCl1TickAtMaxTick(t *testing.T) {
	for _, from := range []int{last - 2, last - 1, last} {
		for _, by := range slices.Concat(edges(), bits()) {
			r := at(t, from)
			r.tick(by)
			r.same()
			r.tick(1)
			r.same()
			r.tick(by)
			r.tick(api.MaxInt)
			r.same()
			for range 5 {
				r.tick(1)
				r.tick(0)
				r.tick(-1)
			}
			r.same()
			if r.m.now != api.MaxTick || r.m.stopped {
				t.Fatal("the model is wrong")
			}
			r.stop()
			r.same()
		}
	}
}

// The clock is stopped at each tick: the first call alone reports that it ran, and Now stays.
func TestCl1Stop(t *testing.T) {
	for _, from := range slices.Concat([]int{0}, ticks(), bits()) {
		r := at(t, from)
		r.same()
		r.stop()
		r.same()
		r.stop()
		r.same()
		r.stop()
		r.now()
	}
	c := clock.New()
	if !c.Stop() || c.Stop() || c.Stop() {
		t.Error("the first Stop alone is true")
	}
	if !c.Stopped() || c.Now() != 0 {
		t.Errorf("behind Stop: Stopped() = %t, Now() = %d", c.Stopped(), c.Now())
	}
}

// A clock that did not tick yet is stopped at 0, whatever was asked ahead of it.
func TestCl1StopAt0(t *testing.T) {
	for _, asks := range lists(3, 0, 1, 2) {
		r := begin(t)
		for _, ask := range asks {
			switch ask {
			case 0:
				r.now()
			case 1:
				r.stopped()
			default:
				r.tick(0)
			}
		}
		r.stop()
		r.tick(1)
		r.same()
		if r.m.now != 0 {
			t.Fatal("the model is wrong")
		}
	}
}

// Ticks behind a stop by each number, at each tick: none moves the clock, and each returns the tick at which it stands.
func TestCl1TickBehindStop(t *testing.T) {
	for _, from := range ticks() {
		r := at(t, from)
		r.stop()
		for _, by := range slices.Concat(edges(), bits(), []int{last - from, -from, api.MaxInt - from}) {
			r.tick(by)
			r.now()
		}
		r.same()
		r.stop()
		for _, by := range edges() {
			r.tick(by)
			r.stopped()
		}
		r.same()
		if r.m.now != from {
			t.Fatal("the model is wrong")
		}
	}
}

// Now and Stopped change nothing, however often they are asked, before and behind a stop.
func TestCl1AsksChangeNothing(t *testing.T) {
	for _, from := range []int{0, 1, 77, last - 1, last} {
		r := at(t, from)
		for range 100 {
			r.now()
			r.stopped()
		}
		r.tick(1)
		for range 100 {
			r.stopped()
			r.now()
		}
		r.stop()
		for range 100 {
			r.now()
			r.stopped()
		}
		r.tick(1)
		r.stop()
		r.same()
	}
}

// A nil clock has no tick, does not run, and can't be stopped or made to tick.
func TestCl1Nil(t *testing.T) {
	var c *clock.Clock
	for range 3 {
		for _, by := range edges() {
			if n := c.Tick(by); n != 0 {
				t.Errorf("Tick(%d) = %d", by, n)
			}
			if n := c.Now(); n != 0 {
				t.Errorf("behind Tick(%d): Now() = %d", by, n)
			}
			if !c.Stopped() {
				t.Errorf("behind Tick(%d) a nil clock runs", by)
			}
		}
		if c.Stop() {
			t.Error("Stop() is true")
		}
		if !c.Stopped() || c.Now() != 0 {
			t.Errorf("behind Stop: Stopped() = %t, Now() = %d", c.Stopped(), c.Now())
		}
	}
	if x := clock.New(); x.Stopped() || x.Tick(2) != 2 || !x.Stop() {
		t.Error("a clock follows a nil one")
	}
}

// A nil clock answers so whatever is called first.
func TestCl1NilFirst(t *testing.T) {
	for name, ok := range map[string]func(c *clock.Clock) bool{
		"Now":     func(c *clock.Clock) bool { return c.Now() == 0 },
		"Tick":    func(c *clock.Clock) bool { return c.Tick(5) == 0 },
		"Stop":    func(c *clock.Clock) bool { return !c.Stop() },
		"Stopped": func(c *clock.Clock) bool { return c.Stopped() },
	} {
		if !ok(nil) {
			t.Errorf("%s of a nil clock", name)
		}
	}
}

// A zero clock, whatever is called first.
func TestCl1Zero(t *testing.T) {
	for name, first := range map[string]func(c *clock.Clock) bool{
		"Now":        func(c *clock.Clock) bool { return c.Now() == 0 && c.Tick(4) == 4 && c.Stop() },
		"Tick":       func(c *clock.Clock) bool { return c.Tick(4) == 4 && c.Stop() },
		"Tick by 0":  func(c *clock.Clock) bool { return c.Tick(0) == 0 && c.Tick(4) == 4 && c.Stop() },
		"Tick by -1": func(c *clock.Clock) bool { return c.Tick(-1) == 0 && c.Tick(4) == 4 && c.Stop() },
		"Stopped":    func(c *clock.Clock) bool { return !c.Stopped() && c.Tick(4) == 4 && c.Stop() },
	} {
		for _, c := range []*clock.Clock{new(clock.Clock), {}, &make([]clock.Clock, 2)[1]} {
			if !first(c) || !c.Stopped() || c.Now() != 4 || c.Tick(1) != 4 || c.Stop() {
				t.Errorf("a zero clock, first %s: Now() = %d, Stopped() = %t", name, c.Now(), c.Stopped())
			}
		}
	}
	var c clock.Clock
	if !c.Stop() || c.Stop() || !c.Stopped() || c.Now() != 0 || c.Tick(1) != 0 {
		t.Errorf("a zero clock, first Stop: Now() = %d, Stopped() = %t", c.Now(), c.Stopped())
	}
}

// Zero clocks that stand beside each other in memory do not touch each other.
func TestCl1ZeroParts(t *testing.T) {
	for turned := range 5 {
		var parts struct {
			before int
			list   [5]clock.Clock
			after  int
		}
		for n := range parts.list {
			parts.list[n].Tick(10 * n)
		}
		if !parts.list[turned].Stop() || parts.list[turned].Stop() {
			t.Error("Stop")
		}
		for n := range parts.list {
			c := &parts.list[n]
			want := 10*n + 1
			if n == turned {
				want--
			}
			if got := c.Tick(1); got != want || c.Now() != want || c.Stopped() != (n == turned) {
				t.Errorf("%d is stopped: clock %d: Tick(1) = %d, Now() = %d, Stopped() = %t", turned, n, got, c.Now(), c.Stopped())
			}
		}
		if parts.before != 0 || parts.after != 0 {
			t.Error("what stands beside the clocks has changed")
		}
	}
}

// Two clocks side by side: what is done to one is not to be seen in the other one.
func TestCl1Apart(t *testing.T) {
	for _, l := range lists(6, 0, 1, 2, 3) {
		a, b := begin(t), begin(t)
		for n, what := range l {
			r := []*trial{a, b}[what%2]
			if what < 2 {
				r.tick(n + 1)
			} else {
				r.stop()
			}
			a.same()
			b.same()
		}
		a.tick(100)
		b.tick(1000)
		a.same()
		b.same()
	}
}

// Cl2

// Whatever the clock ticks by, it does not go back, and not beyond the last tick.
func TestCl2NeverBackNorBeyond(t *testing.T) {
	all := slices.Concat(edges(), bits())
	for seed := range 40 {
		mix := mixer(uint64(seed))
		for _, c := range []*clock.Clock{clock.New(), new(clock.Clock)} {
			before := 0
			for range 400 {
				by := all[mix(len(all))]
				if seed%2 == 0 { // so that the last tick is not reached at once
					by %= 1 << 33
				}
				n := c.Tick(by)
				if n < before || n > api.MaxTick || c.Now() != n {
					t.Fatalf("at %d, Tick(%d) = %d, Now() = %d", before, by, n, c.Now())
				}
				if by <= 0 && n != before {
					t.Fatalf("at %d, Tick(%d) = %d", before, by, n)
				}
				before = n
			}
		}
	}
}

// Negative numbers alone, of any size, do not move it.
func TestCl2NegativesMoveNothing(t *testing.T) {
	for _, from := range ticks() {
		r := at(t, from)
		for _, by := range slices.Concat(edges(), bits()) {
			if by <= 0 {
				r.tick(by)
				r.now()
			}
		}
		r.same()
		if r.m.now != from {
			t.Fatal("the model is wrong")
		}
	}
}

// Many ticks by 1: no one is left out.
func TestCl2ManyTicks(t *testing.T) {
	c := clock.New()
	for n := range 1 << 20 {
		if got := c.Tick(1); got != n+1 {
			t.Fatalf("Tick(1) = %d; want %d", got, n+1)
		}
	}
	if c.Now() != 1<<20 || c.Stopped() {
		t.Fatalf("Now() = %d, Stopped() = %t", c.Now(), c.Stopped())
	}
}

// From 0 to the last tick in strides that meet it, and in strides that go past it; there the clock stays.
func TestCl2ToTheLastTick(t *testing.T) {
	for _, stride := range []int{1 << 20, 1<<20 + 1, 1<<20 - 1, 1<<21 + 12345, 1 << 30, 1<<39 + 1, last - 1, last, last + 1} {
		c := clock.New()
		want := 0
		for want < last {
			want = min(want+stride, last)
			if got := c.Tick(stride); got != want {
				t.Fatalf("stride %d: Tick() = %d; want %d", stride, got, want)
			}
		}
		for range 1000 {
			if got := c.Tick(stride); got != api.MaxTick {
				t.Fatalf("stride %d: beyond the last tick: %d", stride, got)
			}
		}
		if c.Now() != api.MaxTick || c.Stopped() || !c.Stop() || c.Now() != api.MaxTick {
			t.Fatalf("stride %d: Now() = %d", stride, c.Now())
		}
	}
}

// However many stops there are among however many ticks, the first alone reports that the clock ran.
func TestCl2StoppedOnce(t *testing.T) {
	for at := range 20 {
		for _, c := range []*clock.Clock{clock.New(), new(clock.Clock)} {
			ran := 0
			for n := range 60 {
				c.Tick(n)
				if n >= at && c.Stop() {
					ran++
					if n != at {
						t.Errorf("Stop() is true %d calls late", n-at)
					}
				}
				if c.Stopped() != (n >= at) {
					t.Fatalf("step %d, stop at %d: Stopped() = %t", n, at, c.Stopped())
				}
			}
			if want := at * (at + 1) / 2; ran != 1 || c.Now() != want {
				t.Errorf("stop at %d: %d stops, Now() = %d; want %d", at, ran, c.Now(), want)
			}
		}
	}
}

// Once it is stopped it keeps its tick, whatever is called how often.
func TestCl2KeepsItsTick(t *testing.T) {
	all := slices.Concat(edges(), bits())
	for _, from := range ticks() {
		mix := mixer(uint64(from))
		c := clock.New()
		c.Tick(from)
		c.Stop()
		for range 2000 {
			got := from
			switch mix(4) {
			case 0, 1:
				got = c.Tick(all[mix(len(all))])
			case 2:
				if c.Stop() {
					t.Fatal("stopped twice")
				}
			default:
				got = c.Now()
			}
			if got != from || !c.Stopped() {
				t.Fatalf("stopped at %d: now %d, Stopped() = %t", from, got, c.Stopped())
			}
		}
	}
}

// All runs of up to so many steps; what is asked, is asked after each one, or only behind the last one.
func shortRuns(t *testing.T, most int, ask bool) {
	steps := []func(r *trial){
		func(r *trial) { r.tick(0) },
		func(r *trial) { r.tick(1) },
		func(r *trial) { r.tick(-3) },
		func(r *trial) { r.tick(last - 2) },
		func(r *trial) { r.tick(api.MaxInt) },
		func(r *trial) { r.tick(api.MinInt) },
		func(r *trial) { r.stop() },
	}
	numbers := make([]int, len(steps))
	for n := range numbers {
		numbers[n] = n
	}
	for _, run := range lists(most, numbers...) {
		r := begin(t)
		for _, n := range run {
			steps[n](r)
			if ask {
				r.now()
				r.stopped()
			}
		}
		r.same()
		r.tick(2)
		r.stop()
		r.same()
	}
}

func TestCl2ShortRuns(t *testing.T) {
	shortRuns(t, 6, false)
	shortRuns(t, 5, true)
}

// Long runs with ticks by small and by great numbers, and a stop somewhere or nowhere.
func TestCl2LongRuns(t *testing.T) {
	all := slices.Concat(edges(), bits())
	for _, c := range []struct{ span, stop, steps int }{{3, 0, 4000}, {10, 2000, 4000}, {1000, 3999, 4000}, {1 << 28, 700, 4000}, {1 << 30, 9999, 6000}, {0, 3, 500}, {0, 9999, 1000}} {
		mix := mixer(uint64(c.span + c.stop))
		r := begin(t)
		for n := range c.steps {
			if n == c.stop || n > c.stop && mix(10) == 0 {
				r.stop()
			}
			if c.span == 0 {
				r.tick(all[mix(len(all))])
			} else {
				r.tick(mix(c.span) - c.span/5)
			}
			r.now()
			r.stopped()
		}
		r.same()
	}
}

// The same calls on clocks that were made in different ways give the same answers.
func TestCl2SameCallsSameAnswers(t *testing.T) {
	var first []int
	for round := range 6 {
		mix := mixer(31)
		c := clock.New()
		if round%2 == 1 {
			c = new(clock.Clock)
		}
		for other := range round {
			x := clock.New()
			x.Tick(other * 100)
			x.Stop()
		}
		var told []int
		for n := range 300 {
			told = append(told, c.Tick(mix(1000)-300), c.Now())
			if n == 200 && !c.Stop() || n > 200 && c.Stop() || c.Stopped() != (n >= 200) {
				t.Fatalf("round %d, step %d: Stop or Stopped", round, n)
			}
		}
		if round == 0 {
			first = told
		}
		if !slices.Equal(told, first) {
			t.Fatalf("round %d answers something else", round)
		}
	}
}

// together does something in several goroutines that start at once, and waits for them.
func together(many int, do func(n int)) {
	gate := make(chan struct{})
	var all sync.WaitGroup
	for n := range many {
		all.Go(func() {
			<-gate
			do(n)
		})
	}
	close(gate)
	all.Wait()
}

// row is many clocks that run at a tick. Goroutines that go along it together meet at each of its clocks, while a single one they would mostly miss.
func row(tick int) []clock.Clock {
	l := make([]clock.Clock, 1<<14)
	for n := range l {
		l[n].Tick(tick)
	}
	return l
}

// Ticks at once: each of them counts, no two return one tick, and none sees the clock go back.
func TestCl2TicksAtOnce(t *testing.T) {
	const each = 4
	for _, by := range []int{1, 3, 1, 3, 1, 3, 1, 3} {
		l := row(5)
		var told [8][]uint64 // by clocks, a bit for each tick that was returned
		together(len(told), func(n int) {
			told[n] = make([]uint64, len(l))
			for at := range l {
				before := 5
				for range each {
					now := l[at].Now()
					next := l[at].Tick(by)
					if now < before || next <= now || (next-5)%by != 0 {
						t.Errorf("clock %d: from %d to %d, then to %d", at, before, now, next)
						return
					}
					before = next
					told[n][at] |= 1 << ((next - 5) / by)
				}
			}
		})
		for at := range l {
			sum := uint64(0)
			for n := range told {
				sum += told[n][at]
			}
			if want := each * len(told); l[at].Now() != 5+want*by || sum != 1<<(want+1)-2 {
				t.Fatalf("clock %d: Now() = %d; want %d; returned %b", at, l[at].Now(), 5+want*by, sum)
			}
		}
	}
}

// Ticks at once near the last tick: they all end, and none goes beyond it.
func TestCl2TicksAtOnceAtTheEnd(t *testing.T) {
	for range 4 {
		l := row(last - 20)
		together(8, func(n int) {
			for at := range l {
				for range 5 {
					if got := l[at].Tick(n%4 + 1); got <= last-20 || got > last {
						t.Errorf("clock %d: Tick() = %d", at, got)
						return
					}
				}
			}
		})
		for at := range l {
			if l[at].Now() != last || l[at].Stopped() {
				t.Fatalf("clock %d: Now() = %d, Stopped() = %t", at, l[at].Now(), l[at].Stopped())
			}
		}
	}
}

// Stops at once: one alone of them reports that the clock ran.
func TestCl2StopsAtOnce(t *testing.T) {
	for range 20 {
		l := row(7)
		var ran [8][]bool
		together(len(ran), func(n int) {
			ran[n] = make([]bool, len(l))
			for at := range l {
				ran[n][at] = l[at].Stop()
			}
		})
		for at := range l {
			many := 0
			for n := range ran {
				if ran[n][at] {
					many++
				}
			}
			if many != 1 || l[at].Now() != 7 || !l[at].Stopped() {
				t.Fatalf("clock %d: %d stops, Now() = %d, Stopped() = %t", at, many, l[at].Now(), l[at].Stopped())
			}
		}
	}
}

// A stop amid ticks: behind the stop no tick moves the clock any more, not even one that had begun ahead of it; and no tick that was told ahead of the stop is lost.
func TestCl2StopAmidTicks(t *testing.T) {
	for range 4 {
		l := row(0)
		var told [8][]int
		together(len(told), func(n int) {
			told[n] = make([]int, len(l))
			for at := range l {
				if n < 2 {
					l[at].Stop()
					told[n][at] = l[at].Now()
					if !l[at].Stopped() {
						t.Error("behind Stop a clock runs")
						return
					}
					continue
				}
				for range 4 {
					told[n][at] = l[at].Tick(1)
				}
			}
		})
		for at := range l {
			for n := range told {
				if now := l[at].Now(); told[n][at] > now || n < 2 && told[n][at] != now {
					t.Fatalf("clock %d: goroutine %d was told %d, then it is at %d", at, n, told[n][at], now)
				}
			}
		}
	}
}
