package lease

import (
	"testing"

	"reeve/api"
)

// in is a store whose lease has an epoch that calls alone would reach only after minutes, as each of them grants one.
func in(t *testing.T, epoch int) *Store {
	t.Helper()
	s, e := New(5)
	if e != api.OK {
		t.Fatal(e)
	}
	s.kept.Store(&api.Lease{Holder: -1, Epoch: epoch})
	return s
}

func acquire(t *testing.T, s *Store, now, who, want int, wantE api.Errno) {
	t.Helper()
	if n, e := s.Acquire(now, who); n != want || e != wantE {
		t.Fatalf("Acquire(%d, %d) = %d, %v; want %d, %v", now, who, n, e, want, wantE)
	}
}

func get(t *testing.T, s *Store, holder, epoch, until int) {
	t.Helper()
	if l := s.Get(); l != (api.Lease{Holder: holder, Epoch: epoch, Until: until}) {
		t.Fatalf("Get() = %v; want %d, %d, %d", l, holder, epoch, until)
	}
}

// The last epoch is granted once, and none behind it: not when the lease ran out, not to the same holder, not when it was released.
func TestLe2LastEpoch(t *testing.T) {
	const most = 1<<32 - 1
	for before := range 4 {
		s := in(t, most-1-before)
		for n := range before {
			acquire(t, s, 10*n, 0, most-before+n, api.OK)
		}
		get(t, s, []int{-1, 0}[min(before, 1)], most-1, max(0, 10*before-5))
		acquire(t, s, 50, 2, most, api.OK)
		get(t, s, 2, most, 55)
		for _, who := range []int{0, 1, 2, 3, 4} {
			acquire(t, s, 55, who, 0, api.ErrFull)
			acquire(t, s, api.MaxTick, who, 0, api.ErrFull)
			get(t, s, 2, most, 55)
		}
		if e := s.Release(54, 2, most); e != api.OK {
			t.Fatal(e)
		}
		get(t, s, -1, most, 0)
		for _, who := range []int{0, 1, 2, 3, 4} {
			acquire(t, s, 0, who, 0, api.ErrFull)
			acquire(t, s, 54, who, 0, api.ErrFull)
			get(t, s, -1, most, 0)
		}
	}
}

// Wrong arguments, and a holder, come ahead of the last epoch.
func TestLe2LastEpochErrors(t *testing.T) {
	s := in(t, api.MaxEpoch-1)
	acquire(t, s, 7, 1, api.MaxEpoch, api.OK)
	for now := range 12 {
		acquire(t, s, now, 1, 0, api.ErrTwice)
		acquire(t, s, now, 0, 0, api.ErrHeld)
		acquire(t, s, now, 4, 0, api.ErrHeld)
	}
	for _, now := range []int{-1, api.MaxTick + 1} {
		acquire(t, s, now, 1, 0, api.ErrArg)
	}
	for _, who := range []int{-1, 5} {
		acquire(t, s, 12, who, 0, api.ErrArg)
	}
	acquire(t, s, 12, 1, 0, api.ErrFull)
	get(t, s, 1, api.MaxEpoch, 12)
}

// In the last epoch, as in great ones, the lease is renewed, held and released as in others.
func TestLe3GreatEpochs(t *testing.T) {
	for _, epoch := range []int{api.MaxEpoch, api.MaxEpoch - 1, 1 << 31, 1<<31 - 1, 1<<31 + 1, 1 << 16, 1 << 20} {
		s := in(t, epoch-1)
		acquire(t, s, 0, 3, epoch, api.OK)
		for bit := range 64 {
			other := epoch ^ 1<<bit
			if s.Holds(4, 3, other) || s.Renew(4, 3, other) != api.ErrFence || s.Release(4, 3, other) != api.ErrFence {
				t.Fatalf("3 leads in epoch %d, not in %d", epoch, other)
			}
		}
		get(t, s, 3, epoch, 5)
		if e := s.Renew(4, 3, epoch); e != api.OK {
			t.Fatal(e)
		}
		get(t, s, 3, epoch, 9)
		if !s.Holds(8, 3, epoch) || s.Holds(9, 3, epoch) || s.Holds(8, 2, epoch) {
			t.Fatal("Holds")
		}
		if e := s.Release(9, 3, epoch); e != api.ErrFence {
			t.Fatal(e)
		}
		if e := s.Release(8, 3, epoch); e != api.OK {
			t.Fatal(e)
		}
		get(t, s, -1, epoch, 0)
	}
}

// Great epochs go up by one, too.
func TestLe4GreatEpochsByOne(t *testing.T) {
	for _, from := range []int{1<<16 - 50, 1<<31 - 50, 1<<32 - 1 - 100} {
		s := in(t, from)
		for n := range 100 {
			acquire(t, s, api.MaxTick, n%5, from+n+1, api.OK)
		}
		get(t, s, 4, from+100, api.MaxTick)
	}
}
