package heap_test

import (
	"slices"
	"testing"

	"reeve/api"
	"reeve/heap"
)

// plainLess is what the document says of keys: the first number in which they differ is less.
func plainLess(a, b api.Key) bool {
	if a[0] != b[0] {
		return a[0] < b[0]
	}
	if a[1] != b[1] {
		return a[1] < b[1]
	}
	return a[2] < b[2]
}

// model has the items as the document tells of them, in no order: what is least is looked for each time.
type model map[int]api.Key

// ahead tells whether one item of the model is less than another one.
func (m model) ahead(a, b int) bool {
	if m[a] != m[b] {
		return plainLess(m[a], m[b])
	}
	return a < b
}

func (m model) least() (int, api.Key, bool) {
	best, found := 0, false
	for id := range m {
		if !found || m.ahead(id, best) {
			best, found = id, true
		}
	}
	return best, m[best], found
}

func (m model) order() []int {
	var l []int
	for id := range m {
		l = append(l, id)
	}
	slices.SortFunc(l, func(a, b int) int {
		if m.ahead(a, b) {
			return -1
		}
		if m.ahead(b, a) {
			return 1
		}
		return 0
	})
	return l
}

// step is a call that changes a heap.
type step struct {
	what string
	id   int
	key  api.Key
}

// trial does with a heap from New, with a zero one and with the model the same, and holds them against each other.
type trial struct {
	t     *testing.T
	heaps []*heap.Heap
	m     model
	steps []step
}

func begin(t *testing.T) *trial {
	return &trial{t: t, heaps: []*heap.Heap{heap.New(), new(heap.Heap)}, m: model{}}
}

// wrong ends the test, and tells what was done last.
func (r *trial) wrong(form string, args ...any) {
	r.t.Helper()
	r.t.Fatalf(form+"\nafter %v", append(args, r.steps[max(0, len(r.steps)-30):])...)
}

func (r *trial) put(id int, key api.Key) {
	r.steps = append(r.steps, step{"put", id, key})
	_, had := r.m[id]
	r.m[id] = key
	for n, h := range r.heaps {
		if got := h.Put(id, key); got == had {
			r.wrong("heap %d: Put(%d, %v) = %t", n, id, key, got)
		}
	}
}

func (r *trial) drop(id int) {
	r.steps = append(r.steps, step{what: "drop", id: id})
	_, had := r.m[id]
	delete(r.m, id)
	for n, h := range r.heaps {
		if got := h.Drop(id); got != had {
			r.wrong("heap %d: Drop(%d) = %t", n, id, got)
		}
	}
}

func (r *trial) take() {
	r.steps = append(r.steps, step{what: "take"})
	id, key, ok := r.m.least()
	delete(r.m, id)
	for n, h := range r.heaps {
		if i, k, o := h.Take(); i != id || k != key || o != ok {
			r.wrong("heap %d: Take() = %d, %v, %t; want %d, %v, %t", n, i, k, o, id, key, ok)
		}
	}
}

func (r *trial) top() {
	id, key, ok := r.m.least()
	for n, h := range r.heaps {
		if i, k, o := h.Top(); i != id || k != key || o != ok {
			r.wrong("heap %d: Top() = %d, %v, %t; want %d, %v, %t", n, i, k, o, id, key, ok)
		}
	}
}

func (r *trial) key(id int) {
	key, ok := r.m[id]
	for n, h := range r.heaps {
		if k, o := h.Key(id); k != key || o != ok {
			r.wrong("heap %d: Key(%d) = %v, %t; want %v, %t", n, id, k, o, key, ok)
		}
	}
}

func (r *trial) size() {
	for n, h := range r.heaps {
		if h.Len() != len(r.m) {
			r.wrong("heap %d: Len() = %d; want %d", n, h.Len(), len(r.m))
		}
	}
}

func (r *trial) all() {
	want := r.m.order()
	for n, h := range r.heaps {
		if got := h.All(); !slices.Equal(got, want) {
			r.wrong("heap %d: All() = %v; want %v", n, got, want)
		}
	}
}

// same asks all that can be asked without a change, of numbers that are there and of others.
func (r *trial) same() {
	r.size()
	r.top()
	r.all()
	for id := range r.m {
		r.key(id)
		r.key(id + 1)
		r.key(-id)
	}
	r.key(0)
	r.top()
	r.all()
	r.size()
}

// drain takes all items and once more.
func (r *trial) drain() {
	for len(r.m) > 0 {
		r.take()
	}
	r.take()
	r.size()
}

// edges are the numbers at which an order is likeliest to be wrong: about 0, about the ends of numbers of fewer bits, and the ends of int.
func edges() []int {
	l := []int{api.MinInt, api.MinInt + 1, -1 << 62, 1 << 62, api.MaxInt - 1, api.MaxInt}
	for _, n := range []int{0, 127, 256, -128, 1 << 15, 1 << 16, -1 << 16, 1 << 31, -1 << 31, 1 << 32, -1 << 32, 1 << 53} {
		l = append(l, n-1, n, n+1)
	}
	slices.Sort(l)
	return slices.Compact(l)
}

// keys are all of some numbers, in order if these are.
func keys(numbers ...int) []api.Key {
	var l []api.Key
	for _, x := range numbers {
		for _, y := range numbers {
			for _, z := range numbers {
				l = append(l, api.Key{x, y, z})
			}
		}
	}
	return l
}

// mixer gives numbers below others, the same in each run.
func mixer(seed uint64) func(below int) int {
	x := seed
	return func(below int) int {
		x = x*6364136223846793005 + 1442695040888963407
		return int(x>>33) % below
	}
}

// orders hands out all orders of the numbers below n.
func orders(n int, do func(l []int)) {
	l := make([]int, n)
	for i := range l {
		l[i] = i
	}
	var from func(at int)
	from = func(at int) {
		if at == n {
			do(l)
			return
		}
		for i := at; i < n; i++ {
			l[at], l[i] = l[i], l[at]
			from(at + 1)
			l[at], l[i] = l[i], l[at]
		}
	}
	from(0)
}

// He1

func TestHe1NewHasNoItems(t *testing.T) {
	if heap.New() == nil {
		t.Fatal("New() is nil")
	}
	r := begin(t)
	r.same()
	for _, id := range edges() {
		r.key(id)
		r.drop(id)
	}
	r.take()
	r.same()
}

// Example 1.
func TestHe1Example(t *testing.T) {
	h := heap.New()
	if !h.Put(5, api.Key{2, 0, 0}) || !h.Put(6, api.Key{1, 0, 0}) || h.Put(5, api.Key{0, 0, 0}) {
		t.Error("Put")
	}
	if id, key, ok := h.Take(); id != 5 || key != (api.Key{}) || !ok {
		t.Error(id, key, ok)
	}
	if id, key, ok := h.Take(); id != 6 || key != (api.Key{1, 0, 0}) || !ok {
		t.Error(id, key, ok)
	}
	if h.Len() != 0 {
		t.Error(h.Len())
	}
}

// A number is new the first time, and again behind a Drop or a Take, whatever its key was.
func TestHe1PutTellsWhetherNew(t *testing.T) {
	for _, key := range []api.Key{{}, {1, 2, 3}, {-1, 0, 0}, {api.MinInt, api.MaxInt, 0}} {
		h := heap.New()
		for n, want := range []bool{true, false, false} {
			if got := h.Put(7, key); got != want {
				t.Errorf("%v: Put number %d is %t", key, n, got)
			}
		}
		if !h.Drop(7) || !h.Put(7, key) || h.Put(7, api.Key{9, 9, 9}) {
			t.Errorf("%v: Put behind Drop", key)
		}
		if _, _, ok := h.Take(); !ok || !h.Put(7, key) || h.Put(7, key) {
			t.Errorf("%v: Put behind Take", key)
		}
		if h.Len() != 1 {
			t.Errorf("%v: %d items", key, h.Len())
		}
	}
}

// The same number with each of some keys, one behind the other: only the last one counts, and there is one item.
func TestHe1PutAgain(t *testing.T) {
	r := begin(t)
	r.put(1, api.Key{0, 0, 1})
	r.put(3, api.Key{0, 1, 0})
	for _, key := range keys(-1, 0, 1, api.MaxInt) {
		for range 2 {
			r.put(2, key)
			r.same()
		}
	}
	r.drain()
	for _, key := range keys(1, 0, -1) {
		r.put(2, key)
		r.same()
		r.drop(2)
		r.same()
	}
}

// Any number may be an item's, with any key, which is there from then on, number by number.
func TestHe1AnyNumberAndKey(t *testing.T) {
	r := begin(t)
	l := edges()
	for n, id := range l {
		r.put(id, api.Key{l[n*7%len(l)], l[n*5%len(l)], l[n*3%len(l)]})
	}
	r.same()
	for n, id := range l {
		r.put(id, api.Key{l[n*2%len(l)], l[n*11%len(l)], l[len(l)-1-n]})
		r.same()
	}
	for n, id := range l {
		if n%3 == 0 {
			r.drop(id)
			r.drop(id)
			r.same()
		}
	}
	r.drain()
}

func TestHe1NumbersThatAreNotThere(t *testing.T) {
	r := begin(t)
	for id := range 20 {
		r.put(3*id-20, api.Key{id % 4, 5, -id})
	}
	for id := -30; id < 50; id++ {
		r.key(id)
	}
	for id := -30; id < 50; id++ {
		if (id+20)%3 != 0 || id < -20 || id > 37 {
			r.drop(id)
		}
	}
	for _, id := range edges() {
		if id < -20 || id > 37 {
			r.drop(id)
			r.key(id)
		}
	}
	r.same()
	for id := -30; id < 50; id++ {
		r.drop(id)
		r.drop(id)
		r.key(id)
		r.same()
	}
}

// Each item of heaps of all forms is dropped in turn: the others stay, in order.
func TestHe1DropEach(t *testing.T) {
	for size := 1; size <= 7; size++ {
		orders(size, func(l []int) {
			for id := range size {
				r := begin(t)
				for n, key := range l {
					r.put(n, api.Key{5, key, 5})
				}
				r.drop(id)
				r.size()
				r.drain()
			}
		})
	}
}

// Two are dropped: the second one where the first one has left its mark.
func TestHe1DropTwo(t *testing.T) {
	orders(6, func(l []int) {
		for a := range l {
			for b := range l {
				r := begin(t)
				for n, key := range l {
					r.put(n, api.Key{key, -key, 0})
				}
				r.drop(a)
				r.drop(b)
				r.key(a)
				r.key(b)
				r.drain()
			}
		}
	})
}

// Each item of heaps of all forms is moved ahead of each other one, beside it, and behind it.
func TestHe1PutMoves(t *testing.T) {
	orders(6, func(l []int) {
		for id := range l {
			for to := -1; to <= 2*len(l); to++ {
				r := begin(t)
				for n, key := range l {
					r.put(n, api.Key{0, 0, 2 * key})
				}
				r.put(id, api.Key{0, 0, to})
				r.key(id)
				r.size()
				r.drain()
			}
		}
	})
}

// What is done with one heap does not show in another one.
func TestHe1HeapsApart(t *testing.T) {
	a, b := begin(t), begin(t)
	for id := range 30 {
		a.put(id, api.Key{id, 0, 0})
		b.put(id+10, api.Key{-id, 1, 1})
		a.put(id/2, api.Key{7, id, 0})
		b.drop(id)
	}
	a.same()
	b.same()
	a.drain()
	b.same()
	b.drain()
	a.put(1, api.Key{})
	b.same()
}

// Keys that differ in one number alone, in several, in none; the first difference counts, whatever stands behind it.
func TestHe1LessExamples(t *testing.T) {
	for _, c := range []struct {
		a, b       api.Key
		ahead, not bool
	}{
		{api.Key{}, api.Key{}, false, false}, {api.Key{1, 2, 3}, api.Key{1, 2, 3}, false, false}, {api.Key{api.MinInt, api.MaxInt, -1}, api.Key{api.MinInt, api.MaxInt, -1}, false, false},
		{api.Key{0, 2, 3}, api.Key{1, 2, 3}, true, false}, {api.Key{1, 1, 3}, api.Key{1, 2, 3}, true, false}, {api.Key{1, 2, 2}, api.Key{1, 2, 3}, true, false},
		{api.Key{0, 9, 9}, api.Key{1, 0, 0}, true, false}, {api.Key{1, 1, 9}, api.Key{1, 2, 0}, true, false}, {api.Key{0, 9, 0}, api.Key{1, 0, 9}, true, false}, {api.Key{0, 0, 9}, api.Key{1, 9, 0}, true, false},
		{api.Key{2, 10, 0}, api.Key{10, 2, 0}, true, false}, {api.Key{0, 0, 1}, api.Key{0, 1, 0}, true, false}, {api.Key{0, 1, 1}, api.Key{1, 0, 0}, true, false},
		{api.Key{-1, 5, 5}, api.Key{0, 0, 0}, true, false}, {api.Key{-2, 0, 0}, api.Key{-1, 0, 0}, true, false}, {api.Key{0, -10, 0}, api.Key{0, -9, 0}, true, false}, {api.Key{0, 0, -1}, api.Key{}, true, false},
		{api.Key{api.MinInt, 0, 0}, api.Key{api.MaxInt, 0, 0}, true, false}, {api.Key{5, api.MinInt, 9}, api.Key{5, api.MaxInt, 0}, true, false}, {api.Key{5, 5, api.MinInt}, api.Key{5, 5, 1}, true, false}, {api.Key{-1, 0, 0}, api.Key{api.MaxInt, 0, 0}, true, false}, {api.Key{api.MinInt, 0, 0}, api.Key{1, 0, 0}, true, false},
		{api.Key{1<<32 + 1, 0, 0}, api.Key{1 << 33, 0, 0}, true, false}, {api.Key{1<<53 - 1, 0, 0}, api.Key{1 << 53, 0, 0}, true, false}, {api.Key{0, 0, 1 << 53}, api.Key{0, 0, 1<<53 + 1}, true, false},
	} {
		if got := heap.Less(c.a, c.b); got != c.ahead {
			t.Errorf("Less(%v, %v) = %t", c.a, c.b, got)
		}
		if got := heap.Less(c.b, c.a); got != c.not {
			t.Errorf("Less(%v, %v) = %t", c.b, c.a, got)
		}
	}
}

// Each two edges meet at each position, while the other numbers are equal, less or greater.
func TestHe1LessOfPairs(t *testing.T) {
	hold := func(a, b api.Key) {
		if got := heap.Less(a, b); got != plainLess(a, b) {
			t.Fatalf("Less(%v, %v) = %t", a, b, got)
		}
	}
	for _, x := range edges() {
		for _, y := range edges() {
			for at := range len(api.Key{}) {
				for _, other := range [][2]int{{0, 0}, {-3, -3}, {1, 2}, {2, 1}, {api.MinInt, api.MaxInt}, {api.MaxInt, api.MinInt}} {
					a, b := api.Key{other[0], other[0], other[0]}, api.Key{other[1], other[1], other[1]}
					a[at], b[at] = x, y
					hold(a, b)
				}
			}
			hold(api.Key{x, x, x}, api.Key{y, y, y})
		}
	}
	few := keys(api.MinInt, -1, 0, 1, 2, api.MaxInt)
	for _, a := range few {
		for _, b := range few {
			hold(a, b)
		}
	}
}

// He2

// Nothing is there at first, behind the last Take, and behind the last Drop; and a heap that was emptied goes on.
func TestHe2NoItems(t *testing.T) {
	r := begin(t)
	for id := range 5 {
		r.take()
		r.same()
		r.put(id-2, api.Key{4, 5, 6})
		r.same()
		r.take()
		r.same()
		r.put(id-2, api.Key{4, 5, 6})
		r.put(id+9, api.Key{4, 5, 7})
		r.drop(id - 2)
		r.drop(id + 9)
		r.same()
	}
	for _, h := range r.heaps {
		if l := h.All(); len(l) != 0 {
			t.Errorf("All() = %v", l)
		}
	}
}

// Top and Take tell number and key, Take removes, Top does not.
func TestHe2TopAndTake(t *testing.T) {
	h := heap.New()
	h.Put(-4, api.Key{3, 1, 2})
	h.Put(8, api.Key{3, 1, 1})
	for range 3 {
		if id, key, ok := h.Top(); id != 8 || key != (api.Key{3, 1, 1}) || !ok || h.Len() != 2 {
			t.Errorf("Top() = %d, %v, %t of %d", id, key, ok, h.Len())
		}
	}
	if id, key, ok := h.Take(); id != 8 || key != (api.Key{3, 1, 1}) || !ok || h.Len() != 1 {
		t.Errorf("Take() = %d, %v, %t, then %d", id, key, ok, h.Len())
	}
	if key, ok := h.Key(8); key != (api.Key{}) || ok || h.Drop(8) {
		t.Error("what was taken is there")
	}
	if id, key, ok := h.Top(); id != -4 || key != (api.Key{3, 1, 2}) || !ok {
		t.Errorf("Top() = %d, %v, %t", id, key, ok)
	}
	if id, key, ok := h.Take(); id != -4 || key != (api.Key{3, 1, 2}) || !ok || h.Len() != 0 {
		t.Errorf("Take() = %d, %v, %t, then %d", id, key, ok, h.Len())
	}
	for range 2 {
		if id, key, ok := h.Take(); id != 0 || key != (api.Key{}) || ok || h.Len() != 0 {
			t.Errorf("Take() of none = %d, %v, %t", id, key, ok)
		}
		if id, key, ok := h.Top(); id != 0 || key != (api.Key{}) || ok {
			t.Errorf("Top() of none = %d, %v, %t", id, key, ok)
		}
	}
}

// An item with the number 0 and the zero key is told from none by the last result alone.
func TestHe2ZeroItem(t *testing.T) {
	h := heap.New()
	h.Put(0, api.Key{})
	if key, ok := h.Key(0); key != (api.Key{}) || !ok || h.Len() != 1 {
		t.Error(key, ok, h.Len())
	}
	if id, key, ok := h.Top(); id != 0 || key != (api.Key{}) || !ok {
		t.Error(id, key, ok)
	}
	if l := h.All(); !slices.Equal(l, []int{0}) {
		t.Error(l)
	}
	if id, key, ok := h.Take(); id != 0 || key != (api.Key{}) || !ok || h.Len() != 0 {
		t.Error(id, key, ok)
	}
}

// With equal keys the numbers decide, as numbers: the negative ones are less.
func TestHe2EqualKeys(t *testing.T) {
	ids := []int{-1 << 40, -10, -9, 0, 2, 10, 1 << 40}
	for _, key := range []api.Key{{}, {3, 3, 3}, {-1, api.MaxInt, api.MinInt}} {
		orders(len(ids), func(l []int) {
			h := heap.New()
			for _, n := range l {
				h.Put(ids[n], key)
			}
			if got := h.All(); !slices.Equal(got, ids) {
				t.Fatalf("All() = %v", got)
			}
			for _, want := range ids {
				if id, k, ok := h.Take(); id != want || k != key || !ok {
					t.Fatalf("Take() = %d, %v, %t; want %d", id, k, ok, want)
				}
			}
		})
	}
	r := begin(t)
	for _, id := range edges() {
		r.put(id, api.Key{1, 1, 1})
		r.put(^id, api.Key{1, 1, 1})
	}
	r.same()
	r.drain()
}

// Equal keys that come about by moves: the number decides then, too, not which one moved.
func TestHe2EqualKeysByMoves(t *testing.T) {
	orders(6, func(l []int) {
		r := begin(t)
		for n := range l {
			r.put(n, api.Key{n, 0, 0})
		}
		for _, id := range l {
			r.put(id, api.Key{3, 0, 0})
			r.top()
			r.all()
		}
		r.drain()
	})
}

// Keys decide ahead of numbers, whatever the numbers are, and at each position.
func TestHe2KeysDecide(t *testing.T) {
	in := keys(api.MinInt, -1<<40, -1, 0, 1, 9, 10, 1<<40, api.MaxInt)
	h := heap.New()
	mix := mixer(5)
	for n := range in {
		h.Put(-n, in[n])
	}
	for range 2000 {
		n := mix(len(in))
		h.Drop(-n)
		h.Put(-n, in[n])
	}
	if l := h.All(); len(l) != len(in) || l[0] != 0 || l[len(l)-1] != 1-len(in) {
		t.Errorf("%d items in All", len(l))
	}
	for n, want := range in {
		if id, key, ok := h.Take(); id != -n || key != want || !ok {
			t.Fatalf("Take() = %d, %v, %t; want %d, %v", id, key, ok, -n, want)
		}
	}
}

// All does not change the heap, gives the same twice, and gives memory of its own.
func TestHe2AllWithoutAChange(t *testing.T) {
	r := begin(t)
	mix := mixer(9)
	for range 60 {
		r.put(mix(100)-50, api.Key{mix(3), mix(3), mix(3)})
		want := r.m.order()
		for _, h := range r.heaps {
			a, b := h.All(), h.All()
			if !slices.Equal(a, want) || !slices.Equal(b, want) {
				r.wrong("All() = %v, %v; want %v", a, b, want)
			}
			for n := range a {
				a[n] = 12345
			}
			_ = append(a, 1, 2, 3)
			_ = append(a[:0], 4, 5, 6)
			if !slices.Equal(b, want) {
				r.wrong("what All() told before is now %v; want %v", b, want)
			}
		}
		r.same()
	}
	before := r.heaps[0].All()
	want := slices.Clone(before)
	r.put(-1000, api.Key{-1, 0, 0})
	r.drop(want[3])
	r.take()
	r.take()
	if !slices.Equal(before, want) {
		t.Errorf("what All() told before has changed to %v", before)
	}
	r.drain()
}

func TestHe2Len(t *testing.T) {
	h := heap.New()
	for n := range 300 {
		if h.Put(n*n, api.Key{n % 7, n % 5, 0}); h.Len() != n+1 {
			t.Fatalf("%d items, want %d", h.Len(), n+1)
		}
		if h.Put(n*n, api.Key{n % 3, 0, n % 2}); h.Len() != n+1 {
			t.Fatalf("%d items, want %d", h.Len(), n+1)
		}
	}
	for n := 300; n > 0; n -= 2 {
		if h.Drop(-1); h.Len() != n {
			t.Fatalf("%d items, want %d", h.Len(), n)
		}
		if h.Drop((n - 1) * (n - 1)); h.Len() != n-1 {
			t.Fatalf("%d items, want %d", h.Len(), n-1)
		}
		if h.Drop((n - 2) * (n - 2)); h.Len() != n-2 {
			t.Fatalf("%d items, want %d", h.Len(), n-2)
		}
	}
}

func TestHe2NilHeap(t *testing.T) {
	var h *heap.Heap
	for _, id := range []int{0, 1, -1, api.MaxInt, 0} {
		if h.Put(id, api.Key{}) || h.Put(id, api.Key{1, 2, 3}) || h.Drop(id) {
			t.Error("Put or Drop is true")
		}
		if key, ok := h.Key(id); key != (api.Key{}) || ok {
			t.Errorf("Key() = %v, %t", key, ok)
		}
		if id, key, ok := h.Top(); id != 0 || key != (api.Key{}) || ok {
			t.Errorf("Top() = %d, %v, %t", id, key, ok)
		}
		if id, key, ok := h.Take(); id != 0 || key != (api.Key{}) || ok {
			t.Errorf("Take() = %d, %v, %t", id, key, ok)
		}
		if h.Len() != 0 || len(h.All()) != 0 {
			t.Errorf("%d items: %v", h.Len(), h.All())
		}
	}
}

// A zero heap is one without items, whichever call comes first; one that is a part of something else, too.
func TestHe2ZeroHeap(t *testing.T) {
	for n, first := range []func(h *heap.Heap) bool{
		func(h *heap.Heap) bool { return h.Put(3, api.Key{1, 1, 1}) && h.Drop(3) },
		func(h *heap.Heap) bool { return !h.Drop(0) },
		func(h *heap.Heap) bool { id, key, ok := h.Top(); return id == 0 && key == api.Key{} && !ok },
		func(h *heap.Heap) bool { id, key, ok := h.Take(); return id == 0 && key == api.Key{} && !ok },
		func(h *heap.Heap) bool { key, ok := h.Key(0); return key == api.Key{} && !ok },
		func(h *heap.Heap) bool { return h.Len() == 0 },
		func(h *heap.Heap) bool { return len(h.All()) == 0 },
	} {
		var parts struct {
			heap.Heap
			list [2]heap.Heap
		}
		for _, h := range []*heap.Heap{new(heap.Heap), {}, &parts.Heap, &parts.list[1]} {
			if !first(h) {
				t.Errorf("first call %d", n)
			}
			r := &trial{t: t, heaps: []*heap.Heap{h}, m: model{}}
			r.same()
			r.put(2, api.Key{1, 0, 0})
			r.put(0, api.Key{1, 0, 0})
			r.put(1, api.Key{})
			r.same()
			r.drain()
		}
	}
}

// He3

// shortRuns are all runs of so many steps; what is asked, is asked after each one, or only behind the last one.
func shortRuns(t *testing.T, most int, ids, ranks int, ask bool) {
	steps := ids*ranks + ids + 1
	runs := 1
	for range most {
		runs *= steps
	}
	for run := range runs {
		r := begin(t)
		left := run
		for range most {
			n := left % steps
			left /= steps
			switch {
			case n < ids*ranks:
				r.put(n/ranks-1, api.Key{0, n % ranks, 0})
			case n < steps-1:
				r.drop(n - ids*ranks - 1)
			default:
				r.take()
			}
			if ask {
				r.size()
				r.top()
			}
		}
		if ask {
			r.same()
		}
		r.drain()
	}
}

func TestHe3AllShortRuns(t *testing.T) {
	shortRuns(t, 5, 3, 2, true)
	shortRuns(t, 5, 3, 2, false)
	shortRuns(t, 3, 5, 3, false)
}

// Each order in which items are put leaves the same heap.
func TestHe3OrderOfPutting(t *testing.T) {
	of := []api.Key{{1, 0, 0}, {0, 5, 0}, {0, 5, 0}, {-3, 0, 9}, {0, 4, 1}, {1, 0, 0}, {0, 4, 0}}
	want := []int{3, 6, 4, 1, 2, 0, 5}
	orders(len(of), func(l []int) {
		h := heap.New()
		for _, id := range l {
			h.Put(id, of[id])
		}
		if got := h.All(); !slices.Equal(got, want) {
			t.Fatalf("put as %v: All() = %v", l, got)
		}
		for _, id := range want {
			if got, key, ok := h.Take(); got != id || key != of[id] || !ok {
				t.Fatalf("put as %v: Take() = %d, %v, %t; want %d", l, got, key, ok, id)
			}
		}
	})
}

// mixedRun puts, moves, drops and takes; every now and then it lets the heap grow, and shrink.
func mixedRun(t *testing.T, seed uint64, steps, ids int, ask bool, key func(mix func(int) int) api.Key) {
	mix := mixer(seed)
	r := begin(t)
	for n := range steps {
		puts := 6
		if n/(2*ids)%2 == 1 {
			puts = 2
		}
		switch id, what := mix(ids)-ids/2, mix(10); {
		case what < puts:
			r.put(id, key(mix))
		case what < 8:
			r.drop(id)
		default:
			r.take()
		}
		if ask {
			r.same()
		}
	}
	r.drain()
}

func TestHe3MixedRuns(t *testing.T) {
	l := edges()
	for n, key := range []func(mix func(int) int) api.Key{
		func(mix func(int) int) api.Key { return api.Key{} },
		func(mix func(int) int) api.Key { return api.Key{mix(2), mix(2), mix(2)} },
		func(mix func(int) int) api.Key { return api.Key{4, mix(5) - 2, 4} },
		func(mix func(int) int) api.Key { return api.Key{mix(1000) - 500, mix(9), mix(9)} },
		func(mix func(int) int) api.Key { return api.Key{l[mix(len(l))], l[mix(len(l))], l[mix(len(l))]} },
	} {
		for m, ids := range []int{3, 8, 40, 150} {
			seed := uint64(10*n + m)
			mixedRun(t, seed, 1500, ids, true, key)
			mixedRun(t, seed+1000, 20000, ids, false, key)
		}
	}
}

// Many items, put upwards, downwards and mixed, with some moved and some dropped: they come in order, each once.
func TestHe3ManyItems(t *testing.T) {
	const many = 1 << 17
	for n, number := range []func(at int) int{
		func(at int) int { return at },
		func(at int) int { return -at },
		func(at int) int { return at * 40503 % many },
	} {
		h := heap.New()
		m := model{}
		for at := range many {
			id := number(at)
			m[id] = api.Key{id / 8, id % 3, 0}
			h.Put(id, m[id])
		}
		for at := range many {
			id := number(at)
			if at%3 == 0 {
				m[id] = api.Key{-id / 16, 1, id % 5}
				h.Put(id, m[id])
			}
			if at%5 == 0 {
				delete(m, id)
				h.Drop(id)
			}
		}
		want := m.order()
		if h.Len() != len(want) || !slices.Equal(h.All(), want) {
			t.Fatalf("run %d: All is otherwise", n)
		}
		for _, id := range want {
			if got, key, ok := h.Take(); got != id || key != m[id] || !ok {
				t.Fatalf("run %d: Take() = %d, %v, %t; want %d, %v", n, got, key, ok, id, m[id])
			}
		}
		if id, _, ok := h.Take(); id != 0 || ok || h.Len() != 0 {
			t.Fatalf("run %d: an item is left", n)
		}
	}
}

// Of what is taken one after the other, with nothing put between, none is less than the one ahead of it by Less.
func TestHe3TakenInOrderOfLess(t *testing.T) {
	mix := mixer(77)
	h := heap.New()
	for range 5000 {
		h.Put(mix(3000)-1500, api.Key{mix(20) - 10, mix(3) - 1, mix(100)})
		if mix(3) == 0 {
			h.Drop(mix(3000) - 1500)
		}
	}
	many := h.Len()
	seen := map[int]bool{}
	id, key, ok := h.Take()
	for ok {
		if seen[id] {
			t.Fatalf("%d is taken twice", id)
		}
		seen[id] = true
		next, nextKey, more := h.Take()
		if more && (heap.Less(nextKey, key) || !heap.Less(key, nextKey) && next <= id) {
			t.Fatalf("%d, %v is taken behind %d, %v", next, nextKey, id, key)
		}
		id, key, ok = next, nextKey, more
	}
	if len(seen) != many || many < 1000 {
		t.Errorf("%d of %d are taken", len(seen), many)
	}
}
