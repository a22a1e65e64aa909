package wheel_test

import (
	"slices"
	"testing"

	"reeve/api"
	"reeve/wheel"
)

// turn is how many ticks apart two ticks are that fall on one slot.
const turn = 16

// model has the items as the document tells of them: the tick of each number, in no order. What is first is looked for each time.
type model map[int]int

func (m model) set(id, at int) bool {
	if at < 0 || at > 1<<40 {
		return false
	}
	m[id] = at
	return true
}

func (m model) drop(id int) bool {
	_, had := m[id]
	delete(m, id)
	return had
}

func (m model) next() (int, bool) {
	first, found := 0, false
	for _, at := range m {
		if !found || at < first {
			first, found = at, true
		}
	}
	return first, found
}

// due asks tick by tick which numbers there are, so that it needs no order of pairs.
func (m model) due(now int) []int {
	var l []int
	for at, ok := m.next(); ok && at <= now; at, ok = m.next() {
		var same []int
		for id := range m {
			if m[id] == at {
				same = append(same, id)
			}
		}
		slices.Sort(same)
		for _, id := range same {
			delete(m, id)
		}
		l = append(l, same...)
	}
	return l
}

// step is a call that may change a wheel.
type step struct {
	what string
	l    []int
}

// trial does with a wheel from New, with a zero one and with the model the same, and holds them against each other.
type trial struct {
	t      *testing.T
	wheels []*wheel.Wheel
	m      model
	steps  []step
}

func begin(t *testing.T) *trial {
	return &trial{t: t, wheels: []*wheel.Wheel{wheel.New(), new(wheel.Wheel)}, m: model{}}
}

// wrong ends the test, and tells what was done last.
func (r *trial) wrong(form string, args ...any) {
	r.t.Helper()
	r.t.Fatalf(form+"\nafter %v", append(args, r.steps[max(0, len(r.steps)-30):])...)
}

func (r *trial) set(id, at int) {
	r.steps = append(r.steps, step{"set", []int{id, at}})
	want := r.m.set(id, at)
	for n, w := range r.wheels {
		if got := w.Set(id, at); got != want {
			r.wrong("wheel %d: Set(%d, %d) = %t", n, id, at, got)
		}
	}
}

func (r *trial) drop(id int) {
	r.steps = append(r.steps, step{"drop", []int{id}})
	want := r.m.drop(id)
	for n, w := range r.wheels {
		if got := w.Drop(id); got != want {
			r.wrong("wheel %d: Drop(%d) = %t", n, id, got)
		}
	}
}

func (r *trial) due(now int) {
	r.steps = append(r.steps, step{"due", []int{now}})
	want := r.m.due(now)
	for n, w := range r.wheels {
		if got := w.Due(now); !slices.Equal(got, want) {
			r.wrong("wheel %d: Due(%d) = %v; want %v", n, now, got, want)
		}
	}
}

func (r *trial) at(id int) {
	want, ok := r.m[id]
	for n, w := range r.wheels {
		if got, is := w.At(id); got != want || is != ok {
			r.wrong("wheel %d: At(%d) = %d, %t; want %d, %t", n, id, got, is, want, ok)
		}
	}
}

func (r *trial) next() {
	want, ok := r.m.next()
	for n, w := range r.wheels {
		if got, is := w.Next(); got != want || is != ok {
			r.wrong("wheel %d: Next() = %d, %t; want %d, %t", n, got, is, want, ok)
		}
	}
}

func (r *trial) size() {
	for n, w := range r.wheels {
		if got := w.Len(); got != len(r.m) {
			r.wrong("wheel %d: Len() = %d; want %d", n, got, len(r.m))
		}
	}
}

// same asks all that can be asked without a change, of numbers that are scheduled and of others.
func (r *trial) same() {
	r.size()
	r.next()
	for id := range r.m {
		r.at(id)
		r.at(id + 1)
		r.at(id - turn)
		r.at(-id)
	}
	r.at(0)
	r.next()
	r.size()
}

// drain lets all be due, tick by tick, and once more.
func (r *trial) drain() {
	for at, ok := r.m.next(); ok; at, ok = r.m.next() {
		r.next()
		r.due(at - 1)
		r.due(at)
		r.size()
	}
	r.due(api.MaxInt)
	r.same()
}

// edges are the numbers at which items are likeliest to be told apart wrongly: about 0, about a turn, about the document's limits, about the ends of numbers of fewer bits, and the ends of int.
func edges() []int {
	l := []int{api.MinInt, api.MinInt + 1, api.MaxInt - 1, api.MaxInt}
	for _, n := range []int{0, turn, 2 * turn, 64, 256, 1 << 16, 1 << 31, 1 << 32, api.MaxTick, 1 << 41, 1 << 53, 1 << 62} {
		l = append(l, n-1, n, n+1, -n-1, -n, -n+1)
	}
	slices.Sort(l)
	return slices.Compact(l)
}

// ticks are those of the edges that are ticks.
func ticks() []int {
	return slices.DeleteFunc(edges(), func(n int) bool { return n < 0 || n > api.MaxTick })
}

// noTicks are numbers that are none, among them some that agree with ticks in all but a sign or a bit.
func noTicks() []int {
	l := slices.DeleteFunc(edges(), func(n int) bool { return n >= 0 && n <= api.MaxTick })
	for n := 1; n <= 2*turn; n++ {
		l = append(l, -n, api.MaxTick+n, api.MinInt+n, api.MaxInt-n, 1<<41+n, 3<<40-n)
	}
	for bit := 41; bit < 63; bit++ {
		l = append(l, 1<<bit, 1<<bit+5, -1<<bit)
	}
	return l
}

// mixer gives numbers below others, the same in each run.
func mixer(seed uint64) func(below int) int {
	x := seed
	return func(below int) int {
		x = x*6364136223846793005 + 1442695040888963407
		return int(x>>33) % below
	}
}

// orders hands out all orders of the numbers below n.
func orders(n int, do func(l []int)) {
	l := make([]int, n)
	for i := range l {
		l[i] = i
	}
	var from func(at int)
	from = func(at int) {
		if at == n {
			do(l)
			return
		}
		for i := at; i < n; i++ {
			l[at], l[i] = l[i], l[at]
			from(at + 1)
			l[at], l[i] = l[i], l[at]
		}
	}
	from(0)
}

// lists are all that have up to so many of some numbers.
func lists(most int, numbers ...int) [][]int {
	all := [][]int{nil}
	from := 0
	for range most {
		end := len(all)
		for _, l := range all[from:end] {
			for _, n := range numbers {
				all = append(all, append(slices.Clone(l), n))
			}
		}
		from = end
	}
	return all
}

// Wh1

func TestWh1NewHasNoItems(t *testing.T) {
	if wheel.New() == nil {
		t.Fatal("New() is nil")
	}
	r := begin(t)
	r.same()
	for _, n := range edges() {
		r.at(n)
		r.drop(n)
		r.due(n)
		r.next()
		r.size()
	}
	r.same()
}

// The ends of ticks, and what stands beyond them.
func TestWh1SetTicksAlone(t *testing.T) {
	for _, c := range []struct {
		at   int
		want bool
	}{
		{0, true}, {1, true}, {15, true}, {16, true}, {17, true}, {api.MaxTick - 1, true}, {api.MaxTick, true},
		{-1, false}, {-16, false}, {api.MaxTick + 1, false}, {api.MaxTick + 16, false}, {-api.MaxTick, false}, {api.MinInt, false}, {api.MinInt + 16, false}, {api.MaxInt, false}, {api.MaxInt - 15, false},
	} {
		for _, w := range []*wheel.Wheel{wheel.New(), new(wheel.Wheel)} {
			if got := w.Set(5, c.at); got != c.want {
				t.Errorf("Set(5, %d) = %t", c.at, got)
			}
			at, ok := w.At(5)
			first, some := w.Next()
			if c.want && (at != c.at || !ok || first != c.at || !some || w.Len() != 1) {
				t.Errorf("behind Set(5, %d): At %d, %t; Next %d, %t; %d items", c.at, at, ok, first, some, w.Len())
			}
			if !c.want && (at != 0 || ok || first != 0 || some || w.Len() != 0) {
				t.Errorf("behind Set(5, %d): At %d, %t; Next %d, %t; %d items", c.at, at, ok, first, some, w.Len())
			}
		}
	}
}

// What is no tick changes nothing: what is scheduled stays at its tick, be it the number itself or another one.
func TestWh1SetOfNoTick(t *testing.T) {
	for _, at := range noTicks() {
		r := begin(t)
		r.set(7, at)
		r.same()
		for id, was := range []int{0, 5, 5 + turn, 15, api.MaxTick - 1, api.MaxTick} {
			r.set(id, was)
		}
		for id := -1; id < 7; id++ {
			r.set(id, at)
			if len(r.m) != 6 {
				t.Fatalf("the model takes the tick %d", at)
			}
			r.same()
		}
		r.due(-1)
		r.drain()
		r.set(3, at)
		r.same()
		r.due(api.MaxInt)
	}
}

// A number that is scheduled gets another tick, from each of many to each: it is due then, and not at its tick before.
func TestWh1SetAgain(t *testing.T) {
	var l []int
	for n := range 2*turn + 3 {
		l = append(l, n)
	}
	l = slices.Concat(l, []int{100, api.MaxTick - turn, api.MaxTick - 1, api.MaxTick})
	for _, from := range l {
		for _, to := range l {
			r := begin(t)
			r.set(4, from)
			r.set(4, to)
			r.same()
			r.due(to - 1)
			r.same()
			r.due(to)
			r.same()
			r.due(from)
			r.due(api.MaxInt)
		}
	}
}

// The same number at one tick after the other, with others beside it: there is one item of it, at its last tick.
func TestWh1SetManyTimes(t *testing.T) {
	for _, l := range lists(4, 0, 3, 3+turn, 8, api.MaxTick) {
		r := begin(t)
		r.set(1, 3)
		r.set(3, 8)
		for _, at := range l {
			r.set(2, at)
			r.size()
			r.next()
			r.at(2)
		}
		r.same()
		r.drain()
		r.drop(2)
		r.size()
	}
}

// The same tick once more: true, and still one item.
func TestWh1SetTheSameTick(t *testing.T) {
	for _, at := range ticks() {
		r := begin(t)
		for range 3 {
			r.set(9, at)
			r.same()
		}
		r.drop(9)
		r.drop(9)
		r.same()
		r.set(9, at)
		r.due(at)
		r.due(at)
		r.same()
	}
}

// Any number may be scheduled, is told apart from each other one, and is scheduled alone.
func TestWh1AnyNumber(t *testing.T) {
	l := edges()
	for n, id := range l {
		r := begin(t)
		r.set(id, n)
		for _, other := range l {
			r.at(other)
		}
		for _, other := range l {
			if other != id {
				r.drop(other)
			}
		}
		r.size()
		r.at(id)
		r.drop(id)
		for _, other := range l {
			r.at(other)
		}
		r.same()
	}
	r := begin(t)
	for n, id := range l {
		r.set(id, n*7919%500)
	}
	r.same()
	for n, id := range l {
		r.set(id, n*31%40)
		r.at(id)
	}
	r.same()
	for n, id := range l {
		if n%3 == 0 {
			r.drop(id)
			r.drop(id)
			r.at(id)
		}
	}
	r.same()
	r.drain()
}

// Numbers that agree in their lower or in their upper bits are different numbers, at one tick, at one slot, and at two.
func TestWh1NumbersThatDifferInOneBit(t *testing.T) {
	for bit := range 64 {
		for _, id := range edges() {
			for _, at := range []int{20, 20 + turn, 21} {
				other := id ^ 1<<bit
				r := begin(t)
				r.set(id, 20)
				r.at(other)
				r.drop(other)
				r.set(other, at)
				r.same()
				r.drop(id)
				r.same()
				r.due(at)
				r.size()
			}
		}
	}
}

// What is asked of ticks is answered for each tick by itself, those of one slot, too.
func TestWh1At(t *testing.T) {
	for _, step := range []int{1, 2, 7, turn - 1, turn, turn + 1, 3 * turn, 1 << 20} {
		r := begin(t)
		for id := range 50 {
			r.set(id, id*step)
			r.set(-id, api.MaxTick-id*step)
		}
		r.same()
		for id := -60; id < 60; id++ {
			r.at(id)
		}
		for _, id := range edges() {
			r.at(id)
		}
		r.drain()
	}
}

// Number 0 at tick 0 is told from nothing by the last result alone.
func TestWh1ZeroItem(t *testing.T) {
	w := wheel.New()
	if !w.Set(0, 0) {
		t.Error("Set")
	}
	if at, ok := w.At(0); at != 0 || !ok || w.Len() != 1 {
		t.Error(at, ok, w.Len())
	}
	if at, ok := w.Next(); at != 0 || !ok {
		t.Error(at, ok)
	}
	if l := w.Due(-1); len(l) != 0 {
		t.Error(l)
	}
	if l := w.Due(0); !slices.Equal(l, []int{0}) || w.Len() != 0 {
		t.Error(l, w.Len())
	}
	if at, ok := w.At(0); at != 0 || ok {
		t.Error(at, ok)
	}
	if at, ok := w.Next(); at != 0 || ok {
		t.Error(at, ok)
	}
	if !w.Set(0, 0) || !w.Drop(0) || w.Drop(0) || len(w.Due(0)) != 0 {
		t.Error("Drop")
	}
}

// Each item of wheels of all sizes is dropped in turn, and once more: the others stay.
func TestWh1DropEach(t *testing.T) {
	for _, step := range []int{0, 1, 5, turn} {
		for many := 1; many <= 2*turn+1; many++ {
			for id := range many {
				r := begin(t)
				for n := range many {
					r.set(n, step*n)
				}
				r.drop(id)
				r.same()
				r.drop(id)
				r.size()
				r.due(api.MaxTick)
			}
		}
	}
}

// What is not scheduled is not dropped, and nothing changes.
func TestWh1DropOfNumbersThatAreNotScheduled(t *testing.T) {
	r := begin(t)
	for n := range 20 {
		r.set(3*n-20, n*5%23)
	}
	for id := -40; id < 60; id++ {
		r.at(id)
		if _, is := r.m[id]; !is {
			r.drop(id)
			r.size()
		}
	}
	for _, id := range edges() {
		if _, is := r.m[id]; !is {
			r.drop(id)
		}
	}
	if len(r.m) != 20 {
		t.Fatal("the model is wrong")
	}
	r.same()
	for id := -40; id < 60; id++ {
		r.drop(id)
		r.drop(id)
		r.same()
	}
	r.due(api.MaxInt)
}

// A number that was dropped is not due, and may be scheduled again, at its tick before or at another one.
func TestWh1DropThenSet(t *testing.T) {
	for _, from := range []int{0, 5, turn, api.MaxTick} {
		for _, to := range []int{0, 4, 5, 6, 5 + turn, turn, api.MaxTick} {
			r := begin(t)
			r.set(1, 5)
			r.set(2, from)
			r.drop(2)
			r.same()
			r.set(2, to)
			r.same()
			r.due(to)
			r.drop(2)
			r.set(2, from)
			r.drop(2)
			r.due(api.MaxInt)
			r.same()
		}
	}
}

// The count is of numbers, not of ticks, nor of calls; each call that removes an item takes one away.
func TestWh1Len(t *testing.T) {
	w := wheel.New()
	hold := func(want int) {
		t.Helper()
		if got := w.Len(); got != want {
			t.Fatalf("Len() = %d; want %d", got, want)
		}
	}
	for n := range 300 {
		w.Set(n*n, n*7)
		hold(n + 1)
		w.Set(n*n, n*3)
		hold(n + 1)
		w.Set(-1, -n-1)
		w.Set(0, -n-1)
		hold(n + 1)
	}
	for n := range 100 { // from the end: those of the last ticks
		w.Drop(-1)
		hold(300 - n)
		w.Drop((299 - n) * (299 - n))
		w.Drop((299 - n) * (299 - n))
		hold(299 - n)
	}
	for n := range 200 { // from the start: those of the first ticks
		w.Due(n*3 - 1)
		hold(200 - n)
		w.Due(n * 3)
		hold(199 - n)
	}
	for n := range 5 * turn {
		w.Set(n, 8)
		w.Set(-n, 8+turn)
	}
	hold(10*turn - 1) // 0 has gone over to the other tick
	w.Due(8)
	hold(5 * turn)
	w.Due(8 + turn)
	hold(0)
}

// At, Next and Len answer the same, however often they are asked, and change nothing.
func TestWh1AsksWithoutAChange(t *testing.T) {
	w := wheel.New()
	w.Set(5, 40)
	w.Set(-7, 24)
	w.Set(0, 24)
	for range 3 {
		for id := -50; id < 50; id++ {
			at, ok := w.At(id)
			want := map[int]int{5: 40, -7: 24, 0: 24}
			if _, is := want[id]; at != want[id] || ok != is {
				t.Fatalf("At(%d) = %d, %t", id, at, ok)
			}
			if first, ok := w.Next(); first != 24 || !ok || w.Len() != 3 {
				t.Fatalf("Next() = %d, %t of %d", first, ok, w.Len())
			}
		}
	}
	if l := w.Due(api.MaxInt); !slices.Equal(l, []int{-7, 0, 5}) {
		t.Errorf("Due() = %v", l)
	}
}

// What is done with one wheel does not show in another one.
func TestWh1WheelsApart(t *testing.T) {
	a, b := begin(t), begin(t)
	for n := range 60 {
		a.set(n, n*5)
		b.set(n+10, n*7)
		b.drop(n)
		a.drop(n / 2)
		a.due(n)
		a.same()
		b.same()
	}
	a.due(api.MaxTick)
	b.same()
	b.drain()
	a.set(1, 1)
	b.same()
	b.set(1, 2)
	b.drop(1)
	a.same()
}

func TestWh1NilWheel(t *testing.T) {
	var w *wheel.Wheel
	for _, n := range append(edges(), 0, 0) {
		for _, at := range append(ticks(), -1, n) {
			if w.Set(n, at) {
				t.Errorf("Set(%d, %d)", n, at)
			}
		}
		if w.Drop(n) {
			t.Errorf("Drop(%d)", n)
		}
		if at, ok := w.At(n); at != 0 || ok {
			t.Errorf("At(%d) = %d, %t", n, at, ok)
		}
		if at, ok := w.Next(); at != 0 || ok {
			t.Errorf("Next() = %d, %t", at, ok)
		}
		if l := w.Due(n); len(l) != 0 {
			t.Errorf("Due(%d) = %v", n, l)
		}
		if w.Len() != 0 {
			t.Errorf("%d items", w.Len())
		}
	}
}

// A zero wheel is one without items, whichever call comes first; one that is a part of something else, too.
func TestWh1ZeroWheel(t *testing.T) {
	for n, first := range []func(w *wheel.Wheel) bool{
		func(w *wheel.Wheel) bool { return w.Set(3, 5) && w.Drop(3) },
		func(w *wheel.Wheel) bool { return w.Set(3, api.MaxTick) && len(w.Due(api.MaxTick)) == 1 },
		func(w *wheel.Wheel) bool { return !w.Set(3, -1) },
		func(w *wheel.Wheel) bool { return !w.Drop(0) },
		func(w *wheel.Wheel) bool { at, ok := w.At(0); return at == 0 && !ok },
		func(w *wheel.Wheel) bool { at, ok := w.Next(); return at == 0 && !ok },
		func(w *wheel.Wheel) bool { return len(w.Due(api.MaxInt)) == 0 },
		func(w *wheel.Wheel) bool { return w.Len() == 0 },
	} {
		var parts struct {
			wheel.Wheel
			list [2]wheel.Wheel
		}
		for _, w := range []*wheel.Wheel{new(wheel.Wheel), {}, &parts.Wheel, &parts.list[1]} {
			if !first(w) {
				t.Errorf("first call %d", n)
			}
			r := &trial{t: t, wheels: []*wheel.Wheel{w}, m: model{}}
			r.same()
			r.drop(3)
			r.set(2, 0)
			r.set(0, turn)
			r.set(1, 0)
			r.same()
			r.drain()
		}
		if parts.Len() != 0 || parts.list[0].Len() != 0 {
			t.Error("a part follows another one")
		}
	}
}

// Wh2

// Example 1.
func TestWh2Example(t *testing.T) {
	w := wheel.New()
	if !w.Set(5, 20) || !w.Set(3, 4) || !w.Set(9, 4) {
		t.Error("Set")
	}
	if l := w.Due(4); !slices.Equal(l, []int{3, 9}) {
		t.Errorf("Due(4) = %v", l)
	}
	if l := w.Due(19); len(l) != 0 {
		t.Errorf("Due(19) = %v", l)
	}
	if l := w.Due(99); !slices.Equal(l, []int{5}) {
		t.Errorf("Due(99) = %v", l)
	}
}

// The first tick of each two and each three, in whichever order they were set, of one slot or of several; then of those that are left.
func TestWh2Next(t *testing.T) {
	some := []int{0, 1, 7, 15, 16, 17, 32, 33, 1 << 39, api.MaxTick - turn, api.MaxTick - 1, api.MaxTick}
	for _, l := range lists(3, some...) {
		r := begin(t)
		for n, at := range l {
			r.set(n*5, at)
			r.next()
		}
		r.size()
		for n := range l {
			r.drop(n * 5)
			r.next()
		}
		r.size()
	}
}

// The first tick follows what is set, moved, dropped and returned.
func TestWh2NextFollows(t *testing.T) {
	w := wheel.New()
	hold := func(want int, is bool) {
		t.Helper()
		for range 2 {
			if at, ok := w.Next(); at != want || ok != is {
				t.Errorf("Next() = %d, %t; want %d, %t", at, ok, want, is)
			}
		}
	}
	hold(0, false)
	w.Set(1, 30)
	hold(30, true)
	w.Set(2, 14) // of the same slot, a turn ahead
	hold(14, true)
	w.Set(3, 13)
	hold(13, true)
	w.Set(3, 31)
	hold(14, true)
	w.Set(3, api.MaxTick+1)
	hold(14, true)
	w.Drop(2)
	hold(30, true)
	w.Set(1, 46)
	hold(31, true)
	w.Due(30)
	hold(31, true)
	w.Due(31)
	hold(46, true)
	w.Set(9, 0)
	hold(0, true)
	w.Due(0)
	hold(46, true)
	w.Due(100)
	hold(0, false)
}

// One item at each tick: nothing a tick ahead, the item at its tick or at any later one.
func TestWh2DueByOneTick(t *testing.T) {
	for _, at := range ticks() {
		for _, now := range append(edges(), at-turn, at-1, at, at+1, at+turn) {
			r := begin(t)
			r.set(-3, at)
			r.due(now)
			r.same()
			if _, left := r.m[-3]; left == (at <= now) {
				t.Fatal("the model is wrong")
			}
			r.due(at)
			r.same()
			r.due(api.MaxInt)
		}
	}
}

// Of the ticks that fall on one slot, only those up to now are due.
func TestWh2DueWithinASlot(t *testing.T) {
	for slot := range turn {
		for now := range 5*turn + 2 {
			r := begin(t)
			for n := range 5 {
				r.set(10-n, slot+n*turn)
				r.set(20+n, slot+n*turn)
			}
			r.due(now)
			r.same()
			r.due(now)
			r.drain()
		}
	}
}

// Ticks in all orders, on several slots and on one: the ticks decide, not the slots, not the numbers, not what came first.
func TestWh2DueByTicks(t *testing.T) {
	for _, l := range [][]int{{0, 1, 2, 3, 4}, {14, 15, 16, 17, 18}, {5, 5 + turn, 5 + 2*turn, 5 + 3*turn, 5 + 4*turn}, {15, 16, 31, 32, 47}, {9, 24, 39, 54, 69}, {0, 31, 1 << 20, 1<<40 - 1, 1 << 40}} {
		want := []int{0, 1, 2, 3, 4}
		down := []int{4, 3, 2, 1, 0}
		orders(len(l), func(in []int) {
			up, back := wheel.New(), wheel.New()
			for _, n := range in {
				up.Set(n, l[n])
				back.Set(4-n, l[n])
			}
			if got := up.Due(api.MaxTick); !slices.Equal(got, want) {
				t.Fatalf("ticks %v set in order %v: Due() = %v", l, in, got)
			}
			if got := back.Due(api.MaxTick); !slices.Equal(got, down) {
				t.Fatalf("ticks %v set in order %v: Due() = %v", l, in, got)
			}
		})
	}
}

// At one tick the numbers decide, as numbers: the negative ones come first.
func TestWh2DueByNumbers(t *testing.T) {
	ids := []int{api.MinInt, -10, -9, 0, 2, 10, api.MaxInt}
	for _, at := range []int{0, 21, api.MaxTick} {
		orders(len(ids), func(l []int) {
			w := wheel.New()
			for _, n := range l {
				w.Set(ids[n], at)
			}
			if got := w.Due(at); !slices.Equal(got, ids) {
				t.Fatalf("Due(%d) = %v", at, got)
			}
		})
	}
	r := begin(t)
	for _, id := range edges() {
		r.set(id, 3)
		r.set(^id, 3+turn)
	}
	r.same()
	r.drain()
}

// Few numbers at few ticks, in all ways: ticks first, then numbers.
func TestWh2DueInOrder(t *testing.T) {
	for _, l := range lists(5, 2, 3, 2+turn, 17) {
		for _, now := range []int{1, 2, 3, 16, 17, 18, 19} {
			r := begin(t)
			for n, at := range l {
				r.set(n*3%5-2, at)
			}
			r.due(now)
			r.size()
			r.next()
			r.due(api.MaxTick)
			r.size()
		}
	}
}

// Items that come to one tick by moves: the number decides then, too.
func TestWh2DueByMoves(t *testing.T) {
	orders(5, func(l []int) {
		r := begin(t)
		for n := range l {
			r.set(n, 40-7*n)
		}
		for n, id := range l {
			r.set(id, 50+n/2*turn)
			r.next()
		}
		r.drain()
	})
}

// Each now, whatever it is, is taken as it is: below all ticks nothing is due, beyond them all.
func TestWh2DueAtAnyNumber(t *testing.T) {
	for _, now := range append(edges(), noTicks()...) {
		r := begin(t)
		for n, at := range ticks() {
			r.set(-n, at)
		}
		r.due(now)
		r.same()
		if now < 0 && len(r.m) != len(ticks()) || now >= api.MaxTick && len(r.m) != 0 {
			t.Fatal("the model is wrong")
		}
		r.due(now)
		r.same()
		r.drain()
	}
}

// What was returned is not scheduled: it is as if it had never been, and may be set again, at a tick that is past, too.
func TestWh2DueRemoves(t *testing.T) {
	for _, at := range []int{0, 3, 3 + turn, 40, api.MaxTick} {
		for _, again := range []int{0, 2, 3, 4, 3 + turn, 41, api.MaxTick} {
			r := begin(t)
			r.set(1, at)
			r.set(2, 3)
			r.set(3, api.MaxTick)
			r.due(at)
			for id := 1; id <= 3; id++ {
				r.at(id)
			}
			r.same()
			r.set(1, again)
			r.same()
			r.due(at)
			r.same()
			r.due(again)
			r.same()
			r.drop(1)
			r.drop(2)
			r.drop(3)
			r.same()
		}
	}
}

// Nothing is due in a wheel without items, be it empty from the start, by Drop or by Due, however often.
func TestWh2DueOfNone(t *testing.T) {
	r := begin(t)
	for n := range 3 * turn {
		for _, now := range []int{api.MinInt, -1, 0, n, api.MaxTick, api.MaxInt} {
			r.due(now)
			r.next()
			r.size()
		}
		r.set(n, n)
		r.drop(n)
		r.due(n)
		r.set(n, n)
		r.due(n)
		r.due(n)
		r.due(api.MaxInt)
		r.same()
	}
}

// What Due returns is memory of its own: nobody's change of it shows in the wheel, or in what is returned later, nor the other way round.
func TestWh2DueGivesItsOwnMemory(t *testing.T) {
	w := wheel.New()
	w.Set(3, 1)
	w.Set(1, 2)
	w.Set(2, 18)
	w.Set(4, 30)
	first := w.Due(20)
	if !slices.Equal(first, []int{3, 1, 2}) {
		t.Fatalf("Due(20) = %v", first)
	}
	for at := range first {
		first[at] = 50 + at
	}
	_ = append(first[:1], 60, 61)
	if _, ok := w.At(50); ok || w.Len() != 1 {
		t.Error("the wheel follows what was returned")
	}
	w.Set(5, 5)
	second := w.Due(api.MaxInt)
	if !slices.Equal(second, []int{5, 4}) || !slices.Equal(first, []int{50, 60, 61}) {
		t.Errorf("returned %v and %v", first, second)
	}
	w.Set(7, 7)
	w.Set(8, 8)
	third := w.Due(8)
	third[0] = 77
	_ = append(second, 80)
	_ = append(third, 78)
	if !slices.Equal(second, []int{5, 4}) || !slices.Equal(third, []int{77, 8}) || w.Len() != 0 {
		t.Errorf("returned %v and %v", second, third)
	}
}

// Wh3

// Whichever ticks the stops are, each item is returned at the first stop that is not ahead of its tick, and at no other one.
func TestWh3HoweverNowAdvances(t *testing.T) {
	const last = 11
	for base := range turn {
		for stops := range 1 << (last + 1) {
			w := wheel.New()
			for at := range last + 1 {
				w.Set(at, base+at)
				w.Set(100+at, base+at)
			}
			var told []int
			for n := range last + 1 {
				if stops>>n&1 == 0 {
					continue
				}
				for _, id := range w.Due(base + n) {
					if id%100 > n {
						t.Fatalf("base %d, stops %b: %d is due at stop %d", base, stops, id, n)
					}
					told = append(told, id%100, n)
				}
			}
			var want []int
			from := 0
			for n := range last + 1 {
				if stops>>n&1 == 0 {
					continue
				}
				for ; from <= n; from++ {
					want = append(want, from, n, from, n)
				}
			}
			if !slices.Equal(told, want) {
				t.Fatalf("base %d, stops %b: items at stops %v; want %v", base, stops, told, want)
			}
			if w.Len() != 2*(last+1-from) {
				t.Fatalf("base %d, stops %b: %d are left", base, stops, w.Len())
			}
		}
	}
}

// Stops that are less than a turn, a turn, or more than one apart, for items at many ticks.
func TestWh3Strides(t *testing.T) {
	for stride := 1; stride <= 4*turn+1; stride++ {
		for _, begins := range []int{0, 1, turn - 1, api.MaxTick - 200} {
			w := wheel.New()
			for n := range 200 {
				w.Set(n*37%200, begins+n*37%200)
			}
			next := 0
			for now := begins - 1; w.Len() > 0; now += stride {
				for _, id := range w.Due(now) {
					if id != next || begins+id > now || begins+id <= now-stride {
						t.Fatalf("stride %d: %d is due at %d, want %d", stride, id, now-begins, next)
					}
					next++
				}
			}
			if next != 200 {
				t.Fatalf("stride %d: %d items", stride, next)
			}
		}
	}
}

// From tick to tick that Next names, each item is returned at its own.
func TestWh3FromNextToNext(t *testing.T) {
	mix := mixer(5)
	for _, most := range []int{1, 10, 40, 1000, 1 << 30, api.MaxTick} {
		w := wheel.New()
		ticks := map[int]int{}
		for id := range 300 {
			ticks[id-150] = mix(1<<20) * (mix(1<<20) + 1) % (most + 1)
			w.Set(id-150, ticks[id-150])
		}
		before := -1
		for now, ok := w.Next(); ok; now, ok = w.Next() {
			if now <= before {
				t.Fatalf("Next() = %d behind %d", now, before)
			}
			if l := w.Due(now - 1); len(l) != 0 {
				t.Fatalf("%v are due ahead of the first tick %d", l, now)
			}
			l := w.Due(now)
			if len(l) == 0 || !slices.IsSorted(l) {
				t.Fatalf("Due(%d) = %v", now, l)
			}
			for _, id := range l {
				if at, is := ticks[id]; !is || at != now {
					t.Fatalf("%d is due at %d, set was %d, %t", id, now, at, is)
				}
				delete(ticks, id)
			}
			before = now
		}
		if len(ticks) != 0 || w.Len() != 0 {
			t.Fatalf("not returned: %v", ticks)
		}
	}
}

// A now that goes back returns nothing that a later one has returned, and nothing ahead of its tick.
func TestWh3NowGoesBack(t *testing.T) {
	for _, nows := range lists(4, -1, 3, 10, 10+turn, 50) {
		r := begin(t)
		for n := range 60 {
			r.set(n*7%60, n)
		}
		for _, now := range nows {
			r.due(now)
			r.next()
			r.set(5, now)
			r.size()
		}
		r.same()
		r.due(60)
		r.size()
	}
}

// All runs of up to so many steps; what is asked, is asked after each one, or only behind the last one.
func shortRuns(t *testing.T, most int, ask bool) {
	steps := []func(r *trial){
		func(r *trial) { r.set(1, 4) },
		func(r *trial) { r.set(1, 4+turn) },
		func(r *trial) { r.set(0, 4) },
		func(r *trial) { r.set(0, 9) },
		func(r *trial) { r.set(1, -1) },
		func(r *trial) { r.drop(0) },
		func(r *trial) { r.drop(1) },
		func(r *trial) { r.due(3) },
		func(r *trial) { r.due(4) },
		func(r *trial) { r.due(19) },
	}
	numbers := make([]int, len(steps))
	for at := range numbers {
		numbers[at] = at
	}
	for _, run := range lists(most, numbers...) {
		r := begin(t)
		for _, n := range run {
			steps[n](r)
			if ask {
				r.size()
				r.next()
				r.at(0)
				r.at(1)
			}
		}
		r.same()
		r.due(20)
		r.size()
	}
}

func TestWh3ShortRuns(t *testing.T) {
	shortRuns(t, 5, false)
	shortRuns(t, 4, true)
}

// Long runs in which numbers are few or many, ticks fall close together or far apart, and now mostly advances.
func TestWh3LongRuns(t *testing.T) {
	for _, c := range []struct{ ids, span, steps int }{{3, 5, 4000}, {16, 64, 4000}, {16, 200, 4000}, {64, 17, 4000}, {300, 40, 3000}, {300, 100000, 3000}, {1 << 30, 1 << 30, 2000}} {
		mix := mixer(uint64(c.ids + c.span))
		number := func() int { return mix(c.ids) - c.ids/3 }
		r := begin(t)
		now := 0
		for n := range c.steps {
			switch mix(8) {
			case 0, 1, 2, 3:
				r.set(number(), now+mix(c.span)-c.span/8)
			case 4:
				r.drop(number())
			case 5:
				r.due(now)
				now += mix(c.span/4 + 2)
			case 6:
				r.due(now - mix(c.span+1))
			default:
				if first, ok := r.m.next(); ok && mix(4) == 0 {
					now = max(now, first)
					r.due(now)
				}
			}
			r.size()
			r.next()
			r.at(number())
			if n%50 == 0 {
				r.same()
			}
		}
		r.same()
		r.drain()
	}
}

// So many that a search of all for each one would not end.
func TestWh3Many(t *testing.T) {
	const many = 1 << 17
	w := wheel.New()
	ticks := make([]int, many)
	for round := range 2 {
		for n := range many {
			id := n * 40503 % many
			ticks[id] = (n*7919 + round) % 5000
			if !w.Set(id, ticks[id]) {
				t.Fatalf("Set(%d, %d)", id, ticks[id])
			}
		}
	}
	for id := 0; id < many; id += 3 {
		if !w.Drop(id) || w.Drop(id) {
			t.Fatalf("Drop(%d)", id)
		}
	}
	for id := range many {
		if at, ok := w.At(id); ok != (id%3 != 0) || ok && at != ticks[id] || !ok && at != 0 {
			t.Fatalf("At(%d) = %d, %t", id, at, ok)
		}
	}
	if want := many - (many+2)/3; w.Len() != want {
		t.Fatalf("%d items, want %d", w.Len(), want)
	}
	var want []int
	for id := range many {
		if id%3 != 0 {
			want = append(want, id)
		}
	}
	slices.SortStableFunc(want, func(a, b int) int { return ticks[a] - ticks[b] })
	var got []int
	for now := -1; now < 5100; now += 100 {
		l := w.Due(now)
		for _, id := range l {
			if ticks[id] > now || ticks[id] <= now-100 {
				t.Fatalf("%d is due at %d, set was %d", id, now, ticks[id])
			}
		}
		got = append(got, l...)
	}
	if !slices.Equal(got, want) || w.Len() != 0 {
		t.Fatalf("%d were due, want %d; %d are left", len(got), len(want), w.Len())
	}
}

// The same calls on two wheels give the same answers, at any time; and so do two that were filled in different ways.
func TestWh3SameCallsSameAnswers(t *testing.T) {
	var first [][]int
	for round := range 5 {
		mix := mixer(31)
		w := wheel.New()
		for n := range 100 * round {
			w.Set(n, n*n)
		}
		w.Due(api.MaxTick)
		var told [][]int
		for n := range 400 {
			w.Set(mix(50)-25, n+mix(40))
			at, _ := w.At(mix(50) - 25)
			next, _ := w.Next()
			answer := []int{at, next, w.Len()}
			if w.Drop(mix(50) - 25) {
				answer = append(answer, 1)
			}
			if mix(7) == 0 {
				answer = append(answer, w.Due(n)...)
			}
			told = append(told, answer)
		}
		told = append(told, w.Due(api.MaxTick))
		if round == 0 {
			first = told
		}
		for at := range told {
			if !slices.Equal(told[at], first[at]) {
				t.Fatalf("round %d, step %d: %v; before %v", round, at, told[at], first[at])
			}
		}
	}
}
