package lease_test

import (
	"slices"
	"sync"
	"testing"

	"reeve/api"
	"reeve/lease"
)

const (
	last     = 1 << 40 // the last tick
	replicas = 5       // the numbers of holders are below this one
)

// model has a lease as the document tells of it.
type model struct {
	span                 int
	holder, epoch, until int
}

func isTick(n int) bool { return n >= 0 && n <= last }

func isWho(n int) bool { return n >= 0 && n < replicas }

// end is the tick so many ticks later, but none beyond the last one.
func end(now, span int) int {
	if now > last-span {
		return last
	}
	return now + span
}

func (m *model) acquire(now, who int) (int, api.Errno) {
	if !isTick(now) || !isWho(who) {
		return 0, api.ErrArg
	}
	if m.holder != -1 && now < m.until {
		if m.holder == who {
			return 0, api.ErrTwice
		}
		return 0, api.ErrHeld
	}
	if m.epoch == 1<<32-1 {
		return 0, api.ErrFull
	}
	m.holder, m.epoch, m.until = who, m.epoch+1, end(now, m.span)
	return m.epoch, api.OK
}

func (m *model) holds(now, who, epoch int) bool {
	if m.holder == -1 || m.holder != who {
		return false
	}
	return now < m.until && epoch == m.epoch
}

func (m *model) renew(now, who, epoch int) api.Errno {
	if !isTick(now) || !isWho(who) {
		return api.ErrArg
	}
	if !m.holds(now, who, epoch) {
		return api.ErrFence
	}
	if to := end(now, m.span); to > m.until {
		m.until = to
	}
	return api.OK
}

func (m *model) release(now, who, epoch int) api.Errno {
	if !isTick(now) || !isWho(who) {
		return api.ErrArg
	}
	if !m.holds(now, who, epoch) {
		return api.ErrFence
	}
	m.holder, m.until = -1, 0
	return api.OK
}

// step is a call that may change a lease.
type step struct {
	what string
	l    []int
}

// trial does with a store and with the model the same, and holds them against each other.
type trial struct {
	t     *testing.T
	s     *lease.Store
	m     *model
	steps []step
}

func begin(t *testing.T, span int) *trial {
	t.Helper()
	s, e := lease.New(span)
	if s == nil || e != api.OK {
		t.Fatalf("New(%d) = %v, %v", span, s, e)
	}
	return &trial{t: t, s: s, m: &model{span: span, holder: -1}}
}

// at begins with a lease that somebody acquired at a tick, in an epoch.
func at(t *testing.T, span, tick, who, epoch int) *trial {
	t.Helper()
	r := begin(t, span)
	for range epoch - 1 {
		r.acquire(tick, who)
		r.release(min(tick, last-1), who, r.m.epoch) // at the last tick nobody holds it anyway
	}
	r.acquire(tick, who)
	if r.m.epoch != epoch || r.m.holder != who {
		t.Fatal("the model is wrong")
	}
	return r
}

// wrong ends the test, and tells what was done last.
func (r *trial) wrong(form string, args ...any) {
	r.t.Helper()
	r.t.Fatalf("span %d: "+form+"\nafter %v", append(append([]any{r.m.span}, args...), r.steps[max(0, len(r.steps)-30):])...)
}

func (r *trial) acquire(now, who int) api.Errno {
	r.t.Helper()
	r.steps = append(r.steps, step{"acquire", []int{now, who}})
	n, e := r.m.acquire(now, who)
	if gotN, gotE := r.s.Acquire(now, who); gotN != n || gotE != e {
		r.wrong("Acquire(%d, %d) = %d, %v; want %d, %v", now, who, gotN, gotE, n, e)
	}
	return e
}

func (r *trial) renew(now, who, epoch int) api.Errno {
	r.t.Helper()
	r.steps = append(r.steps, step{"renew", []int{now, who, epoch}})
	e := r.m.renew(now, who, epoch)
	if got := r.s.Renew(now, who, epoch); got != e {
		r.wrong("Renew(%d, %d, %d) = %v; want %v", now, who, epoch, got, e)
	}
	return e
}

func (r *trial) release(now, who, epoch int) api.Errno {
	r.t.Helper()
	r.steps = append(r.steps, step{"release", []int{now, who, epoch}})
	e := r.m.release(now, who, epoch)
	if got := r.s.Release(now, who, epoch); got != e {
		r.wrong("Release(%d, %d, %d) = %v; want %v", now, who, epoch, got, e)
	}
	return e
}

func (r *trial) holds(now, who, epoch int) {
	r.t.Helper()
	want := r.m.holds(now, who, epoch)
	if got := r.s.Holds(now, who, epoch); got != want {
		r.wrong("Holds(%d, %d, %d) = %t; the lease is %v", now, who, epoch, got, r.s.Get())
	}
}

func (r *trial) get() {
	r.t.Helper()
	want := api.Lease{Holder: r.m.holder, Epoch: r.m.epoch, Until: r.m.until}
	if got := r.s.Get(); got != want {
		r.wrong("Get() = %v; want %v", got, want)
	}
}

// same asks all that can be asked without a change, about where the answers change.
func (r *trial) same() {
	r.t.Helper()
	r.get()
	for _, now := range []int{-1, 0, r.m.until - 1, r.m.until, r.m.until + 1} {
		for who := -1; who <= replicas; who++ {
			for _, epoch := range []int{r.m.epoch - 1, r.m.epoch, r.m.epoch + 1} {
				r.holds(now, who, epoch)
			}
		}
	}
	r.get()
}

// edges are the numbers at which arguments are likeliest to be told apart wrongly: about 0, about the document's limits, about the ends of numbers of fewer bits, and the ends of int.
func edges() []int {
	l := []int{api.MinInt, api.MinInt + 1, api.MaxInt - 1, api.MaxInt}
	for _, n := range []int{0, 5, 16, 64, 99, 1 << 8, 1 << 15, 1 << 16, 1 << 31, 1 << 32, 1 << 39, last, 2 * last, 1 << 53, 1 << 62, api.MaxInt - last} {
		l = append(l, n-1, n, n+1, -n-1, -n, -n+1)
	}
	slices.Sort(l)
	return slices.Compact(l)
}

// ticks are those of the edges that are ticks.
func ticks() []int {
	return slices.DeleteFunc(slices.Concat(edges(), []int{last - 64, last - 63, last - 65, last - 5, last - 2}), func(n int) bool { return !isTick(n) })
}

// bits are numbers that have, or lack, one bit, which a number that was made shorter would not tell apart.
func bits() []int {
	var l []int
	for bit := range 63 {
		l = append(l, 1<<bit, 1<<bit+2, 1<<bit-1, -1<<bit, -1<<bit+2, ^(1 << bit))
	}
	return append(l, api.MinInt, api.MinInt+2, api.MaxInt)
}

// around are the numbers about one, and those that differ from it in one bit.
func around(n int) []int {
	l := []int{n - 2, n - 1, n, n + 1, n + 2, -n, ^n}
	for bit := range 64 {
		l = append(l, n^1<<bit)
	}
	return l
}

// mixer gives numbers below others, the same in each run.
func mixer(seed uint64) func(below int) int {
	x := seed
	return func(below int) int {
		x = x*6364136223846793005 + 1442695040888963407
		return int(x>>33) % below
	}
}

// lists are all that have up to so many of some numbers.
func lists(most int, numbers ...int) [][]int {
	all := [][]int{nil}
	from := 0
	for range most {
		to := len(all)
		for _, l := range all[from:to] {
			for _, n := range numbers {
				all = append(all, append(slices.Clone(l), n))
			}
		}
		from = to
	}
	return all
}

// Le1

// Example 1.
func TestLe1Example(t *testing.T) {
	s, e := lease.New(5)
	if e != api.OK {
		t.Fatal(e)
	}
	if n, e := s.Acquire(0, 1); n != 1 || e != api.OK {
		t.Errorf("Acquire(0, 1) = %d, %v", n, e)
	}
	if n, e := s.Acquire(4, 2); n != 0 || e != api.ErrHeld {
		t.Errorf("Acquire(4, 2) = %d, %v", n, e)
	}
	if n, e := s.Acquire(5, 2); n != 2 || e != api.OK {
		t.Errorf("Acquire(5, 2) = %d, %v", n, e)
	}
	if e := s.Renew(6, 1, 1); e != api.ErrFence {
		t.Errorf("Renew(6, 1, 1) = %v", e)
	}
}

// Each span: a store is there if, and only if, it is from 1 to 64, and nobody has its lease.
func TestLe1New(t *testing.T) {
	all := slices.Concat(edges(), bits())
	for span := -70; span < 140; span++ {
		all = append(all, span)
	}
	for _, span := range all {
		s, e := lease.New(span)
		if span < 1 || span > 64 {
			if s != nil || e != api.ErrArg {
				t.Errorf("New(%d) = %v, %v", span, s, e)
			}
			continue
		}
		if s == nil || e != api.OK {
			t.Fatalf("New(%d) = %v, %v", span, s, e)
		}
		for range 3 {
			if l := s.Get(); l != (api.Lease{Holder: -1, Epoch: 0, Until: 0}) {
				t.Errorf("New(%d): Get() = %v", span, l)
			}
		}
		if n, e := s.Acquire(7, 0); n != 1 || e != api.OK {
			t.Errorf("New(%d): Acquire(7, 0) = %d, %v", span, n, e)
		}
		if l := s.Get(); l != (api.Lease{Holder: 0, Epoch: 1, Until: 7 + span}) {
			t.Errorf("New(%d): behind Acquire(7, 0): Get() = %v", span, l)
		}
	}
	if api.MaxSpan != 64 || api.MaxReplicas != replicas || api.MaxTick != last || api.MaxEpoch != 1<<32-1 {
		t.Error("the limits are not the document's")
	}
}

// A store from New has a new lease, whatever was done with those ahead of it, and each keeps its own.
func TestLe1NewAnew(t *testing.T) {
	var all []*trial
	for n := range 64 {
		r := begin(t, n+1)
		r.same()
		for who := range n%4 + 1 {
			r.acquire(100*who, who)
		}
		if n%3 == 0 {
			r.release(100*r.m.holder, r.m.holder, r.m.epoch)
		}
		all = append(all, r)
	}
	for _, r := range all {
		r.same()
		r.acquire(1000, 4)
		r.same()
	}
}

// Nobody leads in a new store, in no epoch and at no tick; nor does -1.
func TestLe1HoldsNew(t *testing.T) {
	r := begin(t, 5)
	for _, now := range slices.Concat(edges(), bits()) {
		for who := -2; who < 8; who++ {
			for _, epoch := range []int{-1, 0, 1, 2, api.MaxEpoch, api.MinInt, api.MaxInt} {
				if r.s.Holds(now, who, epoch) {
					t.Fatalf("Holds(%d, %d, %d)", now, who, epoch)
				}
			}
		}
	}
	r.get()
}

// A lease is held from the tick at which it was acquired to the one ahead of Until, and not at Until; by its holder alone, and in its epoch alone.
func TestLe1Holds(t *testing.T) {
	s, _ := lease.New(5)
	s.Acquire(10, 3)
	for _, c := range []struct {
		now, who, epoch int
		want            bool
	}{
		{10, 3, 1, true}, {14, 3, 1, true}, {15, 3, 1, false}, {16, 3, 1, false}, {last, 3, 1, false}, {9, 3, 1, true}, {0, 3, 1, true},
		{12, 2, 1, false}, {12, 4, 1, false}, {12, -1, 1, false}, {12, 0, 1, false}, {12, 5, 1, false},
		{12, 3, 0, false}, {12, 3, 2, false}, {12, 3, -1, false}, {12, 3, api.MaxEpoch, false}, {12, 3, 1<<32 + 1, false},
	} {
		if got := s.Holds(c.now, c.who, c.epoch); got != c.want {
			t.Errorf("Holds(%d, %d, %d) = %t", c.now, c.who, c.epoch, got)
		}
	}
	for who := range replicas {
		for _, epoch := range []int{1, 2, 3, 40} {
			for _, tick := range []int{0, 1, 200, last - 3, last - 1, last} {
				r := at(t, 5, tick, who, epoch)
				for _, now := range slices.Concat(edges(), bits(), around(r.m.until), around(tick)) {
					r.holds(now, who, epoch)
				}
				for _, other := range slices.Concat(edges(), around(who)) {
					r.holds(tick, other, epoch)
				}
				for _, other := range slices.Concat(edges(), around(epoch)) {
					r.holds(tick, who, other)
				}
				r.get()
			}
		}
	}
}

// Behind a release nobody leads, whoever asks: not the one who led, and not -1, in no epoch, however early.
func TestLe1HoldsReleased(t *testing.T) {
	for who := range replicas {
		r := at(t, 9, 20, who, 3)
		r.release(21, who, 3)
		for _, now := range slices.Concat(edges(), []int{20, 21, 28, 29}) {
			for other := -2; other < 7; other++ {
				for epoch := -1; epoch < 6; epoch++ {
					r.holds(now, other, epoch)
				}
			}
			if r.s.Holds(now, -1, 3) || r.s.Holds(now, who, 3) {
				t.Fatalf("at %d somebody leads", now)
			}
		}
		r.same()
	}
}

// Get and Holds change nothing, however often they are asked.
func TestLe1AsksChangeNothing(t *testing.T) {
	r := begin(t, 7)
	ask := func() {
		for range 50 {
			r.same()
			r.holds(r.m.until+1, r.m.holder, r.m.epoch)
		}
	}
	ask()
	r.acquire(3, 2)
	ask()
	r.renew(5, 2, 1)
	ask()
	r.acquire(12, 0)
	ask()
	r.release(13, 0, 2)
	ask()
	r.acquire(0, 0)
	ask()
}

// What Get answered stays as it was, and to change it does not change the lease.
func TestLe1GetIsACopy(t *testing.T) {
	s, _ := lease.New(4)
	l := s.Get()
	l.Holder, l.Epoch, l.Until = 3, 77, 99
	if got := s.Get(); got != (api.Lease{Holder: -1}) {
		t.Errorf("Get() = %v", got)
	}
	s.Acquire(6, 2)
	before := s.Get()
	s.Renew(8, 2, 1)
	if before != (api.Lease{Holder: 2, Epoch: 1, Until: 10}) {
		t.Errorf("what Get answered is %v behind Renew", before)
	}
	before = s.Get()
	s.Release(8, 2, 1)
	if before != (api.Lease{Holder: 2, Epoch: 1, Until: 12}) {
		t.Errorf("what Get answered is %v behind Release", before)
	}
	before = s.Get()
	s.Acquire(8, 1)
	if before != (api.Lease{Holder: -1, Epoch: 1}) {
		t.Errorf("what Get answered is %v behind Acquire", before)
	}
}

// without are stores that New did not return.
func without() map[string]*lease.Store {
	var parts struct {
		before [3]int
		s      lease.Store
		after  [3]int
	}
	refused, _ := lease.New(0)
	return map[string]*lease.Store{"nil": nil, "refused": refused, "zero": new(lease.Store), "part": &parts.s, "element": &make([]lease.Store, 3)[1]}
}

// A nil store and a zero one have no lease, whatever they are asked; that comes ahead of what is wrong with the arguments.
func TestLe1NilAndZero(t *testing.T) {
	numbers := []int{api.MinInt, -2, -1, 0, 1, 4, 5, 64, api.MaxEpoch, last, last + 1, api.MaxInt}
	for name, s := range without() {
		for _, now := range numbers {
			for _, who := range numbers {
				if n, e := s.Acquire(now, who); n != 0 || e != api.ErrNone {
					t.Fatalf("%s: Acquire(%d, %d) = %d, %v", name, now, who, n, e)
				}
				for _, epoch := range numbers {
					if e := s.Renew(now, who, epoch); e != api.ErrNone {
						t.Fatalf("%s: Renew(%d, %d, %d) = %v", name, now, who, epoch, e)
					}
					if e := s.Release(now, who, epoch); e != api.ErrNone {
						t.Fatalf("%s: Release(%d, %d, %d) = %v", name, now, who, epoch, e)
					}
					if s.Holds(now, who, epoch) {
						t.Fatalf("%s: Holds(%d, %d, %d)", name, now, who, epoch)
					}
				}
				if l := s.Get(); l != (api.Lease{}) {
					t.Fatalf("%s: Get() = %v", name, l)
				}
			}
		}
	}
}

// They answer so whatever is called first.
func TestLe1NilAndZeroFirst(t *testing.T) {
	for name, ok := range map[string]func(s *lease.Store) bool{
		"Get":     func(s *lease.Store) bool { return s.Get() == api.Lease{} },
		"Holds":   func(s *lease.Store) bool { return !s.Holds(-1, 0, 0) && !s.Holds(0, 0, 0) },
		"Acquire": func(s *lease.Store) bool { n, e := s.Acquire(0, 0); return n == 0 && e == api.ErrNone },
		"Renew":   func(s *lease.Store) bool { return s.Renew(0, 0, 0) == api.ErrNone },
		"Release": func(s *lease.Store) bool { return s.Release(0, 0, 0) == api.ErrNone },
	} {
		for which, s := range without() {
			if !ok(s) || s.Get() != (api.Lease{}) || s.Holds(-1, 0, 0) {
				t.Errorf("%s of a store without a lease (%s)", name, which)
			}
		}
	}
}

// Stores side by side: what is done to one is not to be seen in the other one.
func TestLe1Apart(t *testing.T) {
	for _, l := range lists(5, 0, 1, 2, 3) {
		a, b := begin(t, 3), begin(t, 6)
		for now, what := range l {
			r := []*trial{a, b}[what%2]
			if what < 2 {
				r.acquire(now, now%2)
			} else {
				r.release(now, r.m.holder, r.m.epoch)
			}
			a.get()
			b.get()
		}
		a.same()
		b.same()
	}
}

// Le2

// Each tick, by each holder, with each span: until when the lease is held, and in which epoch.
func TestLe2Acquire(t *testing.T) {
	for span := 1; span <= 64; span++ {
		for _, now := range slices.Concat(ticks(), []int{last - span - 1, last - span, last - span + 1}) {
			for who := range replicas {
				s, _ := lease.New(span)
				if n, e := s.Acquire(now, who); n != 1 || e != api.OK {
					t.Fatalf("span %d: Acquire(%d, %d) = %d, %v", span, now, who, n, e)
				}
				if l := s.Get(); l != (api.Lease{Holder: who, Epoch: 1, Until: min(now+span, last)}) {
					t.Fatalf("span %d: behind Acquire(%d, %d): Get() = %v", span, now, who, l)
				}
			}
		}
	}
	r := begin(t, 5)
	for _, now := range slices.Concat(ticks(), bits()) {
		for who := range replicas {
			r.acquire(now, who)
			r.get()
			r.release(now, who, r.m.epoch)
		}
	}
	r.same()
}

// What is no tick, and who is no replica, is ErrArg, and changes nothing: for a lease that is free, held by who asks, held by another one, or run out.
func TestLe2ArgumentsNotValid(t *testing.T) {
	s, _ := lease.New(5)
	for _, c := range []struct{ now, who int }{
		{-1, 0}, {-1, 4}, {last + 1, 0}, {last + 1, 4}, {api.MinInt, 1}, {api.MaxInt, 1}, {0, -1}, {0, 5}, {last, -1}, {last, 5}, {3, api.MinInt}, {3, api.MaxInt}, {3, 100}, {3, 1 << 32}, {-1, -1}, {last + 1, 5},
	} {
		if n, e := s.Acquire(c.now, c.who); n != 0 || e != api.ErrArg {
			t.Errorf("Acquire(%d, %d) = %d, %v", c.now, c.who, n, e)
		}
		if l := s.Get(); l != (api.Lease{Holder: -1}) {
			t.Fatalf("behind Acquire(%d, %d): Get() = %v", c.now, c.who, l)
		}
	}
	wrongAt := slices.DeleteFunc(slices.Concat(edges(), bits()), isTick)
	wrongWho := slices.DeleteFunc(slices.Concat(edges(), bits()), isWho)
	for _, r := range leases(t) {
		for _, now := range wrongAt {
			for who := range replicas {
				if r.acquire(now, who) != api.ErrArg {
					t.Fatal("the model is wrong")
				}
			}
		}
		for _, who := range wrongWho {
			for _, now := range []int{0, 20, 24, 25, 30, last} {
				if r.acquire(now, who) != api.ErrArg {
					t.Fatal("the model is wrong")
				}
			}
		}
		for _, now := range wrongAt {
			r.acquire(now, -1)
			r.acquire(now, 5)
		}
		r.same()
	}
}

// leases are some of all sorts, of span 5: new, held by each replica in an early or a later epoch, released, and held to the end of all ticks.
func leases(t *testing.T) []*trial {
	l := []*trial{begin(t, 5)}
	for who := range replicas {
		for _, epoch := range []int{1, 2, 7} {
			held, free := at(t, 5, 20, who, epoch), at(t, 5, 20, who, epoch)
			free.release(22, who, epoch)
			l = append(l, held, free)
		}
	}
	return append(l, at(t, 5, last-1, 2, 1), at(t, 5, last, 3, 1))
}

// A lease that is held is not granted: ErrTwice to who holds it, ErrHeld to the others, from 0 to the tick ahead of Until; at Until it is granted to any.
func TestLe2Held(t *testing.T) {
	for _, span := range []int{1, 2, 5, 63, 64} {
		for _, from := range []int{0, 1, 40, 1 << 33, last - 70} {
			for holder := range replicas {
				r := at(t, span, from, holder, 1)
				until := from + span
				for _, now := range []int{until - 1, until - 2, from, from - 1, from + span/2, 0} {
					if !isTick(now) || now >= until {
						continue
					}
					for who := range replicas {
						want := api.ErrHeld
						if who == holder {
							want = api.ErrTwice
						}
						if n, e := r.s.Acquire(now, who); n != 0 || e != want {
							t.Fatalf("span %d, held by %d from %d: Acquire(%d, %d) = %d, %v; want %v", span, holder, from, now, who, n, e, want)
						}
						r.get()
					}
				}
				for who := range replicas {
					for _, now := range []int{until, until + 1, until + 2, last - 1, last} {
						x := at(t, span, from, holder, 1)
						if n, e := x.s.Acquire(now, who); n != 2 || e != api.OK {
							t.Fatalf("span %d, held by %d from %d: Acquire(%d, %d) = %d, %v", span, holder, from, now, who, n, e)
						}
						if l := x.s.Get(); l != (api.Lease{Holder: who, Epoch: 2, Until: min(now+span, last)}) {
							t.Fatalf("span %d, held by %d from %d: behind Acquire(%d, %d): Get() = %v", span, holder, from, now, who, l)
						}
					}
				}
			}
		}
	}
}

// Each lease, each tick, each holder.
func TestLe2AcquireAny(t *testing.T) {
	nows := slices.Concat(edges(), []int{19, 20, 21, 22, 23, 24, 25, 26, last - 6, last - 5, last - 4})
	for _, now := range nows {
		for who := -1; who <= replicas; who++ {
			for _, r := range leases(t) {
				r.acquire(now, who)
				r.get()
				r.holds(now, who, r.m.epoch)
			}
		}
	}
	for _, now := range bits() {
		for _, r := range leases(t)[:4] {
			r.acquire(now, 1)
			r.same()
		}
	}
}

// A lease that was released is granted at any tick, to any, even at the tick of the release and ahead of it.
func TestLe2AcquireReleased(t *testing.T) {
	for _, now := range slices.Concat(ticks(), []int{20, 21, 22, 23, 24, 25}) {
		for who := range replicas {
			r := at(t, 5, 20, 1, 4)
			r.release(22, 1, 4)
			if e := r.acquire(now, who); e != api.OK || r.m.epoch != 5 {
				t.Fatal("the model is wrong")
			}
			r.same()
		}
	}
}

// At the last tick a lease ends as it begins: it is granted there again and again.
func TestLe2AcquireAtMaxTick(t *testing.T) {
	for _, span := range []int{1, 5, 64} {
		r := begin(t, span)
		for n := range 20 {
			r.acquire(last, n%replicas)
			if r.m.epoch != n+1 || r.m.until != last {
				t.Fatal("the model is wrong")
			}
			r.same()
		}
		if r.s.Holds(last, r.m.holder, r.m.epoch) || !r.s.Holds(last-1, r.m.holder, r.m.epoch) {
			t.Error("Holds")
		}
		r.acquire(last-1, 0)
		r.acquire(last-1, 4)
		r.same()
	}
}

// A clock that goes back: a lease that was granted late is held at all earlier ticks.
func TestLe2EarlierTicks(t *testing.T) {
	r := begin(t, 5)
	r.acquire(1000, 2)
	for _, now := range []int{999, 500, 5, 1, 0} {
		for who := range replicas {
			if r.acquire(now, who) == api.OK {
				t.Fatal("the model is wrong")
			}
		}
	}
	r.same()
	r.release(0, 2, 1)
	r.same()
	r.acquire(0, 3)
	r.same()
}

// Le3

// Each lease, each tick, each holder and epoch.
func TestLe3RenewAndReleaseAny(t *testing.T) {
	nows := slices.Concat(edges(), []int{18, 19, 20, 21, 22, 23, 24, 25, 26, last - 6, last - 5, last - 4})
	for _, now := range nows {
		for who := -1; who <= replicas; who++ {
			for epoch := -1; epoch < 4; epoch++ {
				for _, r := range leases(t)[:5] {
					r.renew(now, who, epoch)
					r.get()
					r.release(now, who, epoch)
					r.get()
				}
			}
		}
	}
	for _, r := range leases(t) {
		for _, epoch := range slices.Concat(edges(), bits(), around(r.m.epoch)) {
			for who := range replicas {
				if epoch != r.m.epoch {
					r.renew(20, who, epoch)
					r.release(20, who, epoch)
				}
			}
		}
		r.same()
	}
}

// Renew at each tick from ahead of the grant to the tick ahead of Until: Until becomes later, or stays.
func TestLe3Renew(t *testing.T) {
	for span := 1; span <= 64; span++ {
		for _, from := range []int{0, 100, 1<<32 - 10, last - 200, last - 64, last - span, last - 1} {
			for now := max(0, from-3); now < min(from+span, last); now++ {
				s, _ := lease.New(span)
				s.Acquire(from, 3)
				until := s.Get().Until
				if e := s.Renew(now, 3, 1); e != api.OK {
					t.Fatalf("span %d, from %d: Renew(%d) = %v", span, from, now, e)
				}
				if l := s.Get(); l != (api.Lease{Holder: 3, Epoch: 1, Until: max(until, min(now+span, last))}) {
					t.Fatalf("span %d, from %d: behind Renew(%d): Get() = %v", span, from, now, l)
				}
			}
		}
	}
}

// A renewal that would not make the lease longer leaves Until as it is, and is OK.
func TestLe3RenewNotLonger(t *testing.T) {
	r := at(t, 5, 20, 1, 1)
	for _, now := range []int{24, 23, 20, 1, 0, 24, 23} {
		if e := r.renew(now, 1, 1); e != api.OK || r.m.until != 29 {
			t.Fatal("the model is wrong")
		}
		r.same()
	}
	if e := r.renew(28, 1, 1); e != api.OK || r.m.until != 33 {
		t.Fatal("the model is wrong")
	}
	r.same()
}

// At Until itself, and behind it, there is nothing to renew or to release, though nobody else has asked for the lease; the lease stays as it is told.
func TestLe3AtUntil(t *testing.T) {
	for _, span := range []int{1, 5, 64} {
		for _, now := range []int{0, 1, 2, 100, last} {
			r := at(t, span, 30, 2, 1)
			if e := r.renew(30+span+now, 2, 1); e == api.OK {
				t.Fatal("the model is wrong")
			}
			r.get()
			if e := r.release(30+span+now, 2, 1); e == api.OK {
				t.Fatal("the model is wrong")
			}
			r.get()
			if e := r.renew(30+span-1, 2, 1); e != api.OK {
				t.Fatal("the model is wrong")
			}
			r.same()
			if e := r.release(30+2*span-2, 2, 1); e != api.OK {
				t.Fatal("the model is wrong")
			}
			r.same()
		}
	}
}

// A lease is kept by renewing it in time, tick by tick or at the last one, for as long as there are ticks; at the last one it ends.
func TestLe3RenewAgainAndAgain(t *testing.T) {
	for _, span := range []int{1, 2, 5, 64} {
		for _, stride := range []int{0, 1, span - 1} {
			if stride >= span {
				continue
			}
			r := at(t, span, 0, 4, 2)
			now := 0
			for range 1000 {
				now += stride
				r.renew(now, 4, 2)
				r.get()
				if r.m.until != now+span {
					t.Fatal("the model is wrong")
				}
			}
			r.same()
		}
		r := at(t, span, last-100, 1, 1)
		for now := last - 100; now <= last; now++ {
			want := api.OK
			if now == last || span == 1 && now > last-100 {
				want = api.ErrFence
			}
			if r.renew(now, 1, 1) != want {
				t.Fatal("the model is wrong")
			}
			r.get()
		}
		r.same()
	}
}

// Release gives the lease back at once, in each tick that it is held; its epoch stays.
func TestLe3Release(t *testing.T) {
	for _, span := range []int{1, 2, 5, 63, 64} {
		for who := range replicas {
			for _, from := range []int{0, 77, last - 64, last - 1} {
				for _, now := range []int{0, from, from + span/2, from + span - 1} {
					s, _ := lease.New(span)
					s.Acquire(from, who)
					if now >= last {
						continue
					}
					if e := s.Release(now, who, 1); e != api.OK {
						t.Fatalf("span %d, from %d: Release(%d, %d, 1) = %v", span, from, now, who, e)
					}
					if l := s.Get(); l != (api.Lease{Holder: -1, Epoch: 1, Until: 0}) {
						t.Fatalf("span %d, from %d: behind Release(%d, %d, 1): Get() = %v", span, from, now, who, l)
					}
					if e := s.Release(now, who, 1); e != api.ErrFence {
						t.Fatalf("a second Release(%d, %d, 1) = %v", now, who, e)
					}
					if e := s.Renew(now, who, 1); e != api.ErrFence {
						t.Fatalf("behind Release: Renew(%d, %d, 1) = %v", now, who, e)
					}
					if l := s.Get(); l != (api.Lease{Holder: -1, Epoch: 1, Until: 0}) {
						t.Fatalf("behind a second Release: Get() = %v", l)
					}
				}
			}
		}
	}
}

// What is no tick, and who is no replica, is ErrArg, whether the epoch is right or not; and that changes nothing.
func TestLe3ArgumentsNotValid(t *testing.T) {
	wrongAt := slices.DeleteFunc(slices.Concat(edges(), bits()), isTick)
	wrongWho := slices.DeleteFunc(slices.Concat(edges(), bits()), isWho)
	for _, r := range leases(t) {
		refused := func(now, who int) {
			for _, epoch := range []int{r.m.epoch, r.m.epoch - 1, r.m.epoch + 1, api.MinInt, api.MaxInt} {
				if e := r.s.Renew(now, who, epoch); e != api.ErrArg {
					t.Fatalf("Renew(%d, %d, %d) = %v", now, who, epoch, e)
				}
				if e := r.s.Release(now, who, epoch); e != api.ErrArg {
					t.Fatalf("Release(%d, %d, %d) = %v", now, who, epoch, e)
				}
			}
			r.get()
		}
		for _, now := range wrongAt {
			refused(now, max(0, r.m.holder))
			refused(now, -1)
			refused(now, 5)
		}
		for _, who := range wrongWho {
			refused(20, who)
			refused(last, who)
			refused(0, who)
		}
		r.same()
	}
}

// Nobody renews or releases a lease that nobody holds, not even in its epoch.
func TestLe3NobodyHolds(t *testing.T) {
	r := begin(t, 5)
	for _, now := range ticks() {
		for who := range replicas {
			for epoch := -1; epoch < 3; epoch++ {
				if r.renew(now, who, epoch) != api.ErrFence || r.release(now, who, epoch) != api.ErrFence {
					t.Fatal("the model is wrong")
				}
			}
		}
	}
	r.same()
}

// Le4

// Ever more grants, by turns: epochs go up by one, from 1, whether the lease ran out or was released, and none is granted twice.
func TestLe4EpochsByOne(t *testing.T) {
	s, _ := lease.New(1)
	for n := range 1 << 18 {
		if got, e := s.Acquire(n, n%replicas); got != n+1 || e != api.OK {
			t.Fatalf("Acquire(%d, %d) = %d, %v", n, n%replicas, got, e)
		}
	}
	s, _ = lease.New(64)
	for n := range 1 << 18 {
		if got, e := s.Acquire(n%100, n%replicas); got != n+1 || e != api.OK {
			t.Fatalf("Acquire(%d, %d) = %d, %v", n%100, n%replicas, got, e)
		}
		if e := s.Release(n%100+n%50, n%replicas, n+1); e != api.OK {
			t.Fatalf("Release in epoch %d: %v", n+1, e)
		}
	}
	if l := s.Get(); l != (api.Lease{Holder: -1, Epoch: 1 << 18}) {
		t.Errorf("Get() = %v", l)
	}
}

// Calls with an epoch that was granted ahead of the last one are rejected, by whomever and at whatever tick, and change nothing.
func TestLe4OlderEpochs(t *testing.T) {
	for _, run := range lists(3, 0, 1, 4) {
		for _, released := range []bool{false, true} {
			r := begin(t, 6)
			now := 0
			for _, who := range run {
				r.acquire(now, who)
				if released {
					r.release(now+2, who, r.m.epoch)
				}
				now += 6
			}
			r.acquire(now, 2)
			for _, then := range []int{0, 1, 5, 6, 12, 17, 18, now - 1, now, now + 1, now + 5, now + 6, last} {
				if !isTick(then) {
					continue
				}
				for older := range r.m.epoch {
					for who := range replicas {
						if e := r.s.Renew(then, who, older); e != api.ErrFence {
							t.Fatalf("%v: Renew(%d, %d, %d) = %v", run, then, who, older, e)
						}
						if e := r.s.Release(then, who, older); e != api.ErrFence {
							t.Fatalf("%v: Release(%d, %d, %d) = %v", run, then, who, older, e)
						}
						if r.s.Holds(then, who, older) {
							t.Fatalf("%v: Holds(%d, %d, %d)", run, then, who, older)
						}
					}
				}
			}
			r.same()
		}
	}
}

// The same holder in a later epoch does not lead in its older one.
func TestLe4SameHolderAnew(t *testing.T) {
	r := begin(t, 5)
	r.acquire(0, 3)
	r.acquire(5, 3)
	r.same()
	if r.renew(6, 3, 1) != api.ErrFence || r.release(6, 3, 1) != api.ErrFence || r.renew(6, 3, 3) != api.ErrFence {
		t.Fatal("the model is wrong")
	}
	r.same()
	if r.renew(6, 3, 2) != api.OK {
		t.Fatal("the model is wrong")
	}
	r.same()
}

// All runs of up to so many steps, at ticks that go on, stay or go back.
func TestLe4ShortRuns(t *testing.T) {
	steps := []func(r *trial, now int){
		func(r *trial, now int) { r.acquire(now, 0) },
		func(r *trial, now int) { r.acquire(now+3, 1) },
		func(r *trial, now int) { r.renew(now, 0, r.m.epoch) },
		func(r *trial, now int) { r.renew(now+2, r.m.holder, r.m.epoch) },
		func(r *trial, now int) { r.renew(now, 1, r.m.epoch-1) },
		func(r *trial, now int) { r.release(now, r.m.holder, r.m.epoch) },
		func(r *trial, now int) { r.release(now+2, 1, 2) },
	}
	numbers := make([]int, len(steps))
	for n := range numbers {
		numbers[n] = n
	}
	for _, run := range lists(5, numbers...) {
		for _, stride := range []int{-1, 0, 1, 2} {
			r := begin(t, 3)
			for n, what := range run {
				steps[what](r, 10+stride*n)
				r.get()
			}
			if len(run) < 5 {
				r.same()
			}
		}
	}
}

// seen keeps which epoch was granted to whom, and asks that at no tick two lead, and that nobody leads in an older epoch.
type seen struct {
	t       *testing.T
	granted map[int]int
}

func (x *seen) grant(epoch, who int) {
	if epoch != len(x.granted)+1 {
		x.t.Fatalf("epoch %d is granted behind %d others", epoch, len(x.granted))
	}
	x.granted[epoch] = who
}

func (x *seen) leaders(s *lease.Store, now int) {
	leaders := 0
	for epoch := len(x.granted) - 3; epoch <= len(x.granted)+1; epoch++ {
		for who := range replicas {
			if !s.Holds(now, who, epoch) {
				continue
			}
			leaders++
			if epoch != len(x.granted) || x.granted[epoch] != who {
				x.t.Fatalf("at %d, %d leads in epoch %d; the last one was %d, granted to %d", now, who, epoch, len(x.granted), x.granted[len(x.granted)])
			}
		}
	}
	if leaders > 1 {
		x.t.Fatalf("at %d, %d lead", now, leaders)
	}
}

// Long runs, with arguments that are mostly right, and ticks that mostly go on.
func TestLe4LongRuns(t *testing.T) {
	wrong := slices.Concat(edges(), bits())
	for seed, c := range []struct{ span, from, stride, steps int }{
		{1, 0, 3, 3000}, {5, 0, 3, 6000}, {64, 0, 10, 6000}, {64, 1 << 35, 100, 3000}, {7, last - 3000, 3, 6000}, {30, last - 50, 1, 1000}, {12, 500, 0, 2000}, {2, 0, 1 << 29, 4000},
	} {
		mix := mixer(uint64(seed))
		r := begin(t, c.span)
		x := &seen{t, map[int]int{}}
		now := c.from
		for range c.steps {
			now = min(max(0, now+mix(c.stride+1)-mix(2)*mix(3)), last)
			then, who, epoch := now, mix(replicas), r.m.epoch-mix(8)/6
			if mix(2) == 0 {
				who = r.m.holder
			}
			switch mix(30) {
			case 0:
				then = wrong[mix(len(wrong))]
			case 1:
				who = wrong[mix(len(wrong))]
			case 2:
				epoch = wrong[mix(len(wrong))]
			}
			switch mix(5) {
			case 0, 1:
				if r.acquire(then, who) == api.OK {
					x.grant(r.s.Get().Epoch, who)
				}
			case 2, 3:
				r.renew(then, who, epoch)
			default:
				r.release(then, who, epoch)
			}
			r.holds(then, who, epoch)
			r.get()
			x.leaders(r.s, now)
			x.leaders(r.s, mix(last))
		}
		r.same()
		if r.m.epoch < 10 {
			t.Fatalf("run %d: only %d grants", seed, r.m.epoch)
		}
	}
}

// Runs with arguments of any kind.
func TestLe4WildRuns(t *testing.T) {
	all := slices.Concat(edges(), bits(), ticks(), ticks())
	for seed := range 12 {
		mix := mixer(uint64(1000 + seed))
		r := begin(t, 1+mix(64))
		mostly := func(right int) int {
			if mix(4) > 0 {
				return right
			}
			return all[mix(len(all))]
		}
		for range 1500 {
			now := mostly(r.m.until - 1 + mix(3))
			switch mix(4) {
			case 0, 1:
				r.acquire(now, mostly(mix(replicas)))
			case 2:
				r.renew(now, mostly(r.m.holder), mostly(r.m.epoch))
			default:
				r.release(now, mostly(r.m.holder), mostly(r.m.epoch))
			}
			r.holds(mostly(r.m.until-1), mostly(r.m.holder), mostly(r.m.epoch))
			r.get()
		}
		r.same()
	}
}

// The same calls on stores of the same span give the same answers, whatever other stores there are.
func TestLe4SameCallsSameAnswers(t *testing.T) {
	type answer struct {
		n int
		e api.Errno
		l api.Lease
	}
	var first []answer
	for round := range 6 {
		mix := mixer(31)
		s, _ := lease.New(4)
		for other := range round {
			x, _ := lease.New(other + 1)
			x.Acquire(other, other%replicas)
		}
		var told []answer
		for now := range 400 {
			who, a := mix(3), answer{}
			switch mix(3) {
			case 0:
				a.n, a.e = s.Acquire(now, who)
			case 1:
				a.e = s.Renew(now, who, s.Get().Epoch)
			default:
				a.e = s.Release(now, who, s.Get().Epoch)
			}
			a.l = s.Get()
			told = append(told, a)
		}
		if round == 0 {
			first = told
		}
		if !slices.Equal(told, first) {
			t.Fatalf("round %d answers something else", round)
		}
	}
}

// together does something in several goroutines that start at once, and waits for them.
func together(many int, do func(n int)) {
	gate := make(chan struct{})
	var all sync.WaitGroup
	for n := range many {
		all.Go(func() {
			<-gate
			do(n)
		})
	}
	close(gate)
	all.Wait()
}

// row is many stores. Goroutines that go along it together meet at each of its stores, while a single one they would mostly miss.
func row(span int) []*lease.Store {
	l := make([]*lease.Store, 1<<13)
	for n := range l {
		l[n], _ = lease.New(span)
	}
	return l
}

// Grants at once: one alone has the lease, and the others are told whose it is, their own or another one's.
func TestLe4AcquireAtOnce(t *testing.T) {
	for range 10 {
		l := row(5)
		var told [8][]api.Errno
		together(len(told), func(n int) {
			told[n] = make([]api.Errno, len(l))
			for at, s := range l {
				epoch, e := s.Acquire(n%replicas, n%replicas)
				if told[n][at] = e; epoch != 0 && epoch != 1 || (e == api.OK) != (epoch == 1) {
					t.Errorf("store %d: Acquire(%d, %d) = %d, %v", at, n%replicas, n%replicas, epoch, e)
					return
				}
			}
		})
		for at, s := range l {
			granted := 0
			now := s.Get()
			for n := range told {
				want := api.ErrHeld
				if n%replicas == now.Holder {
					want = api.ErrTwice
				}
				if told[n][at] == api.OK {
					granted++
				} else if told[n][at] != want {
					t.Fatalf("store %d: goroutine %d was told %v; want %v", at, n, told[n][at], want)
				}
			}
			if granted != 1 || now != (api.Lease{Holder: now.Holder, Epoch: 1, Until: now.Holder + 5}) {
				t.Fatalf("store %d: %d grants, then %v", at, granted, now)
			}
		}
	}
}

// Grants at once at the last tick, where a lease ends as it begins: all of them are OK, each with an epoch of its own, and none is left out.
func TestLe4EpochsAtOnce(t *testing.T) {
	const each = 4
	for range 8 {
		l := row(3)
		var told [8][]uint64 // by stores, a bit for each epoch that was returned
		var lost [8]int
		together(len(told), func(n int) {
			told[n] = make([]uint64, len(l))
			for at, s := range l {
				before := 0
				for range each {
					epoch, e := s.Acquire(last, n%replicas)
					if e != api.OK || epoch <= before || epoch > each*len(told) {
						t.Errorf("store %d: Acquire = %d, %v behind %d", at, epoch, e, before)
						lost[n]++
						return
					}
					before = epoch
					told[n][at] |= 1 << epoch
				}
			}
		})
		if lost != [8]int{} {
			return
		}
		for at, s := range l {
			sum := uint64(0)
			for n := range told {
				sum += told[n][at]
			}
			if want := each * len(told); s.Get().Epoch != want || sum != 1<<(want+1)-2 {
				t.Fatalf("store %d: %v; epochs %b", at, s.Get(), sum)
			}
		}
	}
}

// Releases at once: one alone gives the lease back.
func TestLe4ReleaseAtOnce(t *testing.T) {
	for range 10 {
		l := row(5)
		for _, s := range l {
			s.Acquire(1, 2)
		}
		var told [8][]api.Errno
		together(len(told), func(n int) {
			told[n] = make([]api.Errno, len(l))
			for at, s := range l {
				told[n][at] = s.Release(2, 2, 1)
			}
		})
		for at, s := range l {
			many := 0
			for n := range told {
				switch told[n][at] {
				case api.OK:
					many++
				case api.ErrFence:
				default:
					t.Fatalf("store %d: goroutine %d was told %v", at, n, told[n][at])
				}
			}
			if many != 1 || s.Get() != (api.Lease{Holder: -1, Epoch: 1}) {
				t.Fatalf("store %d: %d releases, then %v", at, many, s.Get())
			}
		}
	}
}

// Renewals at once, at different ticks: all of them are OK, and the latest one counts, whichever was faster.
func TestLe4RenewAtOnce(t *testing.T) {
	for range 10 {
		l := row(10)
		for _, s := range l {
			s.Acquire(0, 4)
		}
		together(8, func(n int) {
			for at, s := range l {
				if e := s.Renew((n+at)%8, 4, 1); e != api.OK {
					t.Errorf("store %d: Renew(%d) = %v", at, (n+at)%8, e)
					return
				}
				if until := s.Get().Until; until < (n+at)%8+10 {
					t.Errorf("store %d: behind Renew(%d): until %d", at, (n+at)%8, until)
					return
				}
			}
		})
		for at, s := range l {
			if s.Get() != (api.Lease{Holder: 4, Epoch: 1, Until: 17}) {
				t.Fatalf("store %d: %v", at, s.Get())
			}
		}
	}
}

// A release amid renewals and a grant: what was released stays so, no renewal brings it back, and none touches the lease of the next holder.
func TestLe4ReleaseAmidRenewals(t *testing.T) {
	for range 10 {
		l := row(10)
		for _, s := range l {
			s.Acquire(0, 0)
		}
		granted := make([]bool, len(l))
		together(8, func(n int) {
			for at, s := range l {
				switch n {
				case 0:
					if e := s.Release(1, 0, 1); e != api.OK {
						t.Errorf("store %d: Release = %v", at, e)
						return
					}
					if s.Holds(1, 0, 1) || s.Renew(3, 0, 1) != api.ErrFence {
						t.Errorf("store %d: behind Release its holder leads", at)
						return
					}
				case 1:
					epoch, e := s.Acquire(2, 1)
					granted[at] = e == api.OK
					if granted[at] != (epoch == 2) || !granted[at] && e != api.ErrHeld {
						t.Errorf("store %d: Acquire = %d, %v", at, epoch, e)
						return
					}
				default:
					if e := s.Renew(n, 0, 1); e != api.OK && e != api.ErrFence {
						t.Errorf("store %d: Renew(%d) = %v", at, n, e)
						return
					}
				}
			}
		})
		for at, s := range l {
			want := api.Lease{Holder: -1, Epoch: 1}
			if granted[at] {
				want = api.Lease{Holder: 1, Epoch: 2, Until: 12}
			}
			if s.Get() != want {
				t.Fatalf("store %d: %v; want %v", at, s.Get(), want)
			}
		}
	}
}

// Who asks amid grants and releases is told a lease that was there as a whole: its parts belong together, and its epoch does not go back.
func TestLe4GetAtOnce(t *testing.T) {
	l := row(10)
	together(8, func(n int) {
		for at, s := range l {
			if n < replicas {
				for range 4 {
					if epoch, e := s.Acquire(100*n, n); e == api.OK {
						s.Release(0, n, epoch)
					}
				}
				continue
			}
			before := 0
			for range 12 {
				x := s.Get()
				free := x == api.Lease{Holder: -1, Epoch: x.Epoch}
				held := isWho(x.Holder) && x == api.Lease{Holder: x.Holder, Epoch: x.Epoch, Until: 100*x.Holder + 10}
				if !free && !held || x.Epoch < before {
					t.Errorf("store %d: %v behind epoch %d", at, x, before)
					return
				}
				before = x.Epoch
			}
		}
	})
	for at, s := range l {
		if x := s.Get(); x.Holder != -1 || x.Until != 0 || x.Epoch < 1 || x.Epoch > 4*replicas {
			t.Fatalf("store %d: %v", at, x)
		}
	}
}
