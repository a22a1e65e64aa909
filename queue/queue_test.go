package queue_test

import (
	"slices"
	"testing"

	"reeve/api"
	"reeve/queue"
	"reeve/rank"
)

// plainBefore is what the document says of jobs: the greater Prio, then the less Seq, then the less Id.
func plainBefore(a, b api.Job) bool {
	return a.Prio > b.Prio || a.Prio == b.Prio && (a.Seq < b.Seq || a.Seq == b.Seq && a.Id < b.Id)
}

// model has the jobs as the document tells of them, in no order: which is the first one is looked for each time.
type model map[int]api.Job

func (m model) first() (api.Job, bool) {
	best, found := api.Job{}, false
	for _, j := range m {
		if !found || plainBefore(j, best) {
			best, found = j, true
		}
	}
	return best, found
}

func (m model) order() []api.Job {
	var l []api.Job
	for _, j := range m {
		l = append(l, j)
	}
	slices.SortFunc(l, func(a, b api.Job) int {
		if plainBefore(a, b) {
			return -1
		}
		if plainBefore(b, a) {
			return 1
		}
		return 0
	})
	return l
}

// step is a call that may change a queue.
type step struct {
	what string
	j    api.Job
}

// trial does with a queue from New, with a zero one and with the model the same, and holds them against each other.
type trial struct {
	t      *testing.T
	queues []*queue.Queue
	m      model
	steps  []step
}

func begin(t *testing.T) *trial {
	return &trial{t: t, queues: []*queue.Queue{queue.New(), new(queue.Queue)}, m: model{}}
}

// wrong ends the test, and tells what was done last.
func (r *trial) wrong(form string, args ...any) {
	r.t.Helper()
	r.t.Fatalf(form+"\nafter %v", append(args, r.steps[max(0, len(r.steps)-30):])...)
}

func (r *trial) put(j api.Job) {
	r.steps = append(r.steps, step{"put", j})
	want := j.Prio >= 0
	if want {
		r.m[j.Id] = j
	}
	for n, q := range r.queues {
		if got := q.Put(j); got != want {
			r.wrong("queue %d: Put(%v) = %t", n, j, got)
		}
	}
}

func (r *trial) drop(id int) {
	r.steps = append(r.steps, step{"drop", api.Job{Id: id}})
	_, had := r.m[id]
	delete(r.m, id)
	for n, q := range r.queues {
		if got := q.Drop(id); got != had {
			r.wrong("queue %d: Drop(%d) = %t", n, id, got)
		}
	}
}

func (r *trial) take() {
	r.steps = append(r.steps, step{what: "take"})
	want, ok := r.m.first()
	delete(r.m, want.Id)
	for n, q := range r.queues {
		if j, o := q.Take(); j != want || o != ok {
			r.wrong("queue %d: Take() = %v, %t; want %v, %t", n, j, o, want, ok)
		}
	}
}

func (r *trial) next() {
	want, ok := r.m.first()
	for n, q := range r.queues {
		if j, o := q.Next(); j != want || o != ok {
			r.wrong("queue %d: Next() = %v, %t; want %v, %t", n, j, o, want, ok)
		}
	}
}

func (r *trial) get(id int) {
	want, ok := r.m[id]
	for n, q := range r.queues {
		if j, o := q.Get(id); j != want || o != ok {
			r.wrong("queue %d: Get(%d) = %v, %t; want %v, %t", n, id, j, o, want, ok)
		}
	}
}

func (r *trial) size() {
	for n, q := range r.queues {
		if q.Len() != len(r.m) {
			r.wrong("queue %d: Len() = %d; want %d", n, q.Len(), len(r.m))
		}
	}
}

func (r *trial) all() {
	want := r.m.order()
	for n, q := range r.queues {
		if got := q.All(); !slices.Equal(got, want) {
			r.wrong("queue %d: All() = %v; want %v", n, got, want)
		}
	}
}

// same asks all that can be asked without a change, of numbers that wait and of others.
func (r *trial) same() {
	r.size()
	r.next()
	r.all()
	for id := range r.m {
		r.get(id)
		r.get(id + 1)
		r.get(-id)
	}
	r.get(0)
	r.next()
	r.all()
	r.size()
}

// drain takes all jobs and once more.
func (r *trial) drain() {
	for len(r.m) > 0 {
		r.take()
	}
	r.take()
	r.size()
}

// edges are the numbers at which an order is likeliest to be wrong: about 0, about the limits of what they stand for, about the ends of numbers of fewer bits, and the ends of int.
func edges() []int {
	l := []int{api.MinInt, api.MinInt + 1, -1 << 62, 1 << 62, api.MaxInt - 1, api.MaxInt}
	for _, n := range []int{0, 63, api.MaxPrio, 128, 256, 1 << 16, api.MaxUnit, 1 << 31, -1 << 31, 1 << 32, 1 << 53} {
		l = append(l, n-1, n, n+1)
	}
	slices.Sort(l)
	return slices.Compact(l)
}

// mixer gives numbers below others, the same in each run.
func mixer(seed uint64) func(below int) int {
	x := seed
	return func(below int) int {
		x = x*6364136223846793005 + 1442695040888963407
		return int(x>>33) % below
	}
}

// orders hands out all orders of the numbers below n.
func orders(n int, do func(l []int)) {
	l := make([]int, n)
	for i := range l {
		l[i] = i
	}
	var from func(at int)
	from = func(at int) {
		if at == n {
			do(l)
			return
		}
		for i := at; i < n; i++ {
			l[at], l[i] = l[i], l[at]
			from(at + 1)
			l[at], l[i] = l[i], l[at]
		}
	}
	from(0)
}

// ids are the numbers of jobs.
func ids(l []api.Job) []int {
	var n []int
	for _, j := range l {
		n = append(n, j.Id)
	}
	return n
}

// Qu1

func TestQu1NewHasNoJobs(t *testing.T) {
	if queue.New() == nil {
		t.Fatal("New() is nil")
	}
	r := begin(t)
	r.same()
	for _, id := range edges() {
		r.get(id)
		r.drop(id)
	}
	r.take()
	r.same()
}

// Example 1.
func TestQu1Example(t *testing.T) {
	a, b, c := api.Job{Id: 1, Prio: 1, Seq: 1}, api.Job{Id: 2, Prio: 5, Seq: 2}, api.Job{Id: 3, Prio: 5, Seq: 3}
	q := queue.New()
	if !q.Put(a) || !q.Put(b) || !q.Put(c) {
		t.Error("Put")
	}
	if got := q.All(); !slices.Equal(got, []api.Job{b, c, a}) {
		t.Errorf("All() = %v", got)
	}
	for _, want := range []api.Job{b, c, a} {
		if j, ok := q.Take(); j != want || !ok {
			t.Errorf("Take() = %v, %t; want %v", j, ok, want)
		}
	}
	if q.Len() != 0 {
		t.Error(q.Len())
	}
}

// A job with a negative Prio does not come in, however negative it is, and whatever else it is.
func TestQu1PutNegativePrio(t *testing.T) {
	for _, prio := range []int{-1, -2, -99, -100, -1 << 31, -1 << 32, -1 << 62, api.MinInt + 1, api.MinInt} {
		r := begin(t)
		for _, j := range []api.Job{{}, {Id: 4}, {Id: -4, Seq: -1}, {Id: 4, Seq: 1, Phase: api.Pending, Node: -1, Need: api.Res{1, 1, 1}}, {Id: api.MaxInt, Seq: api.MaxInt}} {
			j.Prio = prio
			r.put(j)
			r.same()
			r.get(j.Id)
			r.drop(j.Id)
		}
		r.take()
		r.put(api.Job{Id: 4})
		r.same()
		r.drain()
	}
}

// Where a job waits already, one of the same number with a negative Prio neither replaces nor removes nor moves it.
func TestQu1PutNegativePrioOfOneThatWaits(t *testing.T) {
	for _, prio := range []int{-1, -7, api.MinInt} {
		r := begin(t)
		for id := range 12 {
			r.put(api.Job{Id: id, Prio: id % 4, Seq: id * 5 % 12, Phase: api.Pending, Node: -1, Need: api.Res{id, 1, 2}})
		}
		for id := range 14 {
			r.put(api.Job{Id: id, Prio: prio, Seq: 50 - id, Phase: api.Running, Node: 3, Need: api.Res{9, 9, 9}})
			r.same()
		}
		r.take()
		r.put(api.Job{Id: 5, Prio: prio})
		r.drop(5)
		r.put(api.Job{Id: 5, Prio: prio})
		r.get(5)
		r.same()
		r.drain()
	}
}

// Every Prio from 0 on comes in, beyond MaxPrio, too, and is as urgent as it is.
func TestQu1PutAnyPrioFrom0(t *testing.T) {
	r := begin(t)
	id := 0
	for _, prio := range edges() {
		id++
		r.put(api.Job{Id: id, Prio: prio, Seq: id})
		r.put(api.Job{Id: -id, Prio: prio, Seq: -id})
	}
	if len(r.m) == 0 || len(r.m) == 2*len(edges()) {
		t.Fatal("no edge, or each one, is negative")
	}
	r.same()
	r.drain()
}

// The same number with each of some Prios and Seqs, one behind the other: only the last job counts, and there is one.
func TestQu1PutReplaces(t *testing.T) {
	r := begin(t)
	r.put(api.Job{Id: 1, Prio: 1, Seq: 1})
	r.put(api.Job{Id: 3, Prio: 1, Seq: 3})
	r.put(api.Job{Id: 4, Prio: 2, Seq: 2})
	for _, prio := range []int{1, 0, 2, 3, 1, api.MaxInt, 2, 0} {
		for _, seq := range []int{2, 1, 3, 0, 4, api.MinInt, 3, api.MaxInt, -1} {
			for range 2 {
				r.put(api.Job{Id: 2, Prio: prio, Seq: seq, Phase: prio, Node: seq})
				r.same()
			}
		}
	}
	r.drain()
	for seq := range 5 {
		r.put(api.Job{Id: 2, Prio: 5, Seq: seq})
		r.same()
		r.drop(2)
		r.same()
		r.put(api.Job{Id: 2, Prio: 5, Seq: 5 - seq})
		r.take()
		r.same()
	}
}

// What the order does not ask for is replaced, too, while the job stays where it is.
func TestQu1PutReplacesWholeJob(t *testing.T) {
	r := begin(t)
	for id := range 5 {
		r.put(api.Job{Id: id, Prio: 3, Seq: 9})
	}
	for _, other := range []api.Job{
		{Phase: api.Pending}, {Phase: api.Running}, {Node: -1}, {Node: 15}, {Need: api.Res{1, 0, 0}}, {Need: api.Res{0, 1, 0}}, {Need: api.Res{0, 0, 1}}, {},
		{Phase: -5, Node: api.MinInt, Need: api.Res{-1, api.MaxInt, api.MinInt}}, {Phase: api.Cancelled, Node: 2, Need: api.Res{7, 8, 9}},
	} {
		for _, id := range []int{0, 2, 4} {
			other.Id, other.Prio, other.Seq = id, 3, 9
			r.put(other)
			r.same()
			for n, q := range r.queues {
				if got := ids(q.All()); !slices.Equal(got, []int{0, 1, 2, 3, 4}) {
					r.wrong("queue %d: %v", n, got)
				}
			}
		}
	}
	r.drain()
}

// Each job of queues of all forms is put again ahead of each other one, beside it, and behind it.
func TestQu1PutMoves(t *testing.T) {
	orders(5, func(l []int) {
		for id := range l {
			for to := 0; to <= 2*len(l); to++ {
				r := begin(t)
				for n, prio := range l {
					r.put(api.Job{Id: n, Prio: 2*prio + 1})
				}
				r.put(api.Job{Id: id, Prio: to, Node: 7})
				r.get(id)
				r.size()
				r.all()
				r.drain()
			}
		}
	})
}

// Any number may be a job's, any Seq, and anything else: what a valid job is, is not asked here.
func TestQu1PutAnyJob(t *testing.T) {
	r := begin(t)
	l := edges()
	for n, id := range l {
		r.put(api.Job{Id: id, Prio: n % 3, Seq: l[n*7%len(l)], Phase: l[n*5%len(l)], Node: l[n*3%len(l)], Need: api.Res{l[n*2%len(l)], id, -id}})
	}
	r.same()
	if len(r.m) != len(l) {
		t.Fatalf("%d jobs", len(r.m))
	}
	for n, id := range l {
		r.put(api.Job{Id: id, Prio: n % 2, Seq: l[len(l)-1-n], Phase: n})
		if n%5 == 0 {
			r.same()
		}
	}
	for n, id := range l {
		if n%3 == 0 {
			r.drop(id)
			r.drop(id)
			r.same()
		}
	}
	r.drain()
}

// A number that no job has is not there, is not dropped, and nothing changes; nor is one whose job has gone.
func TestQu1NumbersThatNoJobHas(t *testing.T) {
	r := begin(t)
	for n := range 20 {
		r.put(api.Job{Id: 3*n - 20, Prio: n % 4, Seq: 20 - n})
	}
	for id := -30; id < 50; id++ {
		r.get(id)
	}
	for id := -30; id < 50; id++ {
		if _, had := r.m[id]; !had {
			r.drop(id)
		}
	}
	for _, id := range edges() {
		if _, had := r.m[id]; !had {
			r.drop(id)
			r.get(id)
		}
	}
	r.same()
	for id := -30; id < 50; id++ {
		r.drop(id)
		r.drop(id)
		r.get(id)
		r.same()
	}
}

// Each job of queues of all forms is dropped in turn: the others stay, in order.
func TestQu1DropEach(t *testing.T) {
	for many := 1; many <= 6; many++ {
		orders(many, func(l []int) {
			for id := range many {
				r := begin(t)
				for n, prio := range l {
					r.put(api.Job{Id: n, Prio: prio, Seq: 5})
				}
				r.drop(id)
				r.get(id)
				r.size()
				r.all()
				r.drain()
			}
		})
	}
}

// The first and the last one dropped, by number: what is next then is the next one.
func TestQu1DropFirst(t *testing.T) {
	r := begin(t)
	for n := range 30 {
		r.put(api.Job{Id: n * 7 % 30, Prio: n % 5, Seq: n})
	}
	for len(r.m) > 0 {
		j, _ := r.m.first()
		r.drop(j.Id)
		r.same()
		if l := r.m.order(); len(l) > 0 {
			r.drop(l[len(l)-1].Id)
			r.same()
		}
	}
	r.take()
}

// Behind a Take, a Drop, and both, the same number may wait again, and it is the job that was put last.
func TestQu1PutAgainBehindAll(t *testing.T) {
	r := begin(t)
	for n := range 40 {
		r.put(api.Job{Id: 5, Prio: n % 3, Seq: n, Node: n})
		r.put(api.Job{Id: 6, Prio: 1, Seq: 20})
		r.same()
		if n%2 == 0 {
			r.take()
		} else {
			r.drop(5)
		}
		r.get(5)
		r.get(6)
		r.same()
	}
	r.drain()
}

// Get hands out what was put, in all its numbers, and changes nothing.
func TestQu1Get(t *testing.T) {
	q := queue.New()
	j := api.Job{Id: 3, Prio: 4, Seq: 5, Phase: api.Pending, Node: -1, Need: api.Res{6, 7, 8}}
	other := api.Job{Id: 4, Prio: 4, Seq: 6, Phase: api.Running, Node: 2, Need: api.Res{1, 2, 3}}
	q.Put(j)
	q.Put(other)
	for range 3 {
		if got, ok := q.Get(3); got != j || !ok || q.Len() != 2 {
			t.Errorf("Get(3) = %v, %t of %d", got, ok, q.Len())
		}
		if got, ok := q.Get(4); got != other || !ok || q.Len() != 2 {
			t.Errorf("Get(4) = %v, %t of %d", got, ok, q.Len())
		}
		if got, ok := q.Get(5); got != (api.Job{}) || ok || q.Len() != 2 {
			t.Errorf("Get(5) = %v, %t of %d", got, ok, q.Len())
		}
	}
	if !q.Drop(3) || q.Len() != 1 {
		t.Error("Drop(3)")
	}
	if got, ok := q.Get(3); got != (api.Job{}) || ok {
		t.Errorf("Get(3) = %v, %t behind Drop", got, ok)
	}
	q.Take()
	if got, ok := q.Get(4); got != (api.Job{}) || ok {
		t.Errorf("Get(4) = %v, %t behind Take", got, ok)
	}
}

// What is done with one queue does not show in another one.
func TestQu1QueuesApart(t *testing.T) {
	a, b := begin(t), begin(t)
	for id := range 30 {
		a.put(api.Job{Id: id, Prio: id % 3, Seq: id})
		b.put(api.Job{Id: id + 10, Prio: id % 4, Seq: -id})
		a.put(api.Job{Id: id / 2, Prio: 7, Seq: id})
		b.drop(id)
	}
	a.same()
	b.same()
	a.drain()
	b.same()
	b.drain()
	a.put(api.Job{Id: 1})
	b.same()
}

// Qu2

// Nothing waits at first, behind the last Take, and behind the last Drop; and a queue that was emptied goes on.
func TestQu2NoJobs(t *testing.T) {
	r := begin(t)
	for id := range 5 {
		r.take()
		r.same()
		r.put(api.Job{Id: id - 2, Prio: 4, Seq: 5})
		r.same()
		r.take()
		r.same()
		r.put(api.Job{Id: id - 2, Prio: 4, Seq: 5})
		r.put(api.Job{Id: id + 9, Prio: 4, Seq: 6})
		r.drop(id - 2)
		r.drop(id + 9)
		r.same()
	}
	for _, q := range r.queues {
		if l := q.All(); len(l) != 0 {
			t.Errorf("All() = %v", l)
		}
	}
}

// Next and Take tell the whole job, Take removes it, Next does not.
func TestQu2NextAndTake(t *testing.T) {
	a := api.Job{Id: 8, Prio: 3, Seq: 1, Phase: api.Pending, Node: -1, Need: api.Res{1, 2, 3}}
	b := api.Job{Id: -4, Prio: 3, Seq: 2, Phase: api.Done, Node: 9, Need: api.Res{4, 5, 6}}
	q := queue.New()
	q.Put(b)
	q.Put(a)
	for range 3 {
		if j, ok := q.Next(); j != a || !ok || q.Len() != 2 {
			t.Errorf("Next() = %v, %t of %d", j, ok, q.Len())
		}
	}
	if j, ok := q.Take(); j != a || !ok || q.Len() != 1 {
		t.Errorf("Take() = %v, %t, then %d", j, ok, q.Len())
	}
	if j, ok := q.Get(8); j != (api.Job{}) || ok || q.Drop(8) {
		t.Error("what was taken waits")
	}
	if j, ok := q.Next(); j != b || !ok {
		t.Errorf("Next() = %v, %t", j, ok)
	}
	if j, ok := q.Take(); j != b || !ok || q.Len() != 0 {
		t.Errorf("Take() = %v, %t, then %d", j, ok, q.Len())
	}
	for range 2 {
		if j, ok := q.Take(); j != (api.Job{}) || ok || q.Len() != 0 {
			t.Errorf("Take() of none = %v, %t", j, ok)
		}
		if j, ok := q.Next(); j != (api.Job{}) || ok {
			t.Errorf("Next() of none = %v, %t", j, ok)
		}
	}
}

// A zero job is told from none by the last result alone.
func TestQu2ZeroJob(t *testing.T) {
	q := queue.New()
	if !q.Put(api.Job{}) {
		t.Error("Put")
	}
	if j, ok := q.Get(0); j != (api.Job{}) || !ok || q.Len() != 1 {
		t.Error(j, ok, q.Len())
	}
	if j, ok := q.Next(); j != (api.Job{}) || !ok {
		t.Error(j, ok)
	}
	if l := q.All(); !slices.Equal(l, []api.Job{{}}) {
		t.Error(l)
	}
	if j, ok := q.Take(); j != (api.Job{}) || !ok || q.Len() != 0 {
		t.Error(j, ok)
	}
	if !q.Put(api.Job{}) || !q.Drop(0) || q.Drop(0) {
		t.Error("Drop")
	}
}

// With equal Prio the Seqs decide, with equal Seqs the numbers, as numbers: in whichever order the jobs come.
func TestQu2EqualPrio(t *testing.T) {
	for _, prio := range []int{0, 1, api.MaxPrio, api.MaxInt} {
		for _, l := range [][]api.Job{
			{{Id: 9, Seq: 1}, {Id: 8, Seq: 2}, {Id: 7, Seq: 3}, {Id: 6, Seq: 10}, {Id: 5, Seq: 20}},
			{{Id: 5, Seq: api.MinInt}, {Id: 4, Seq: -10}, {Id: 3, Seq: -9}, {Id: 2, Seq: 0}, {Id: 1, Seq: api.MaxInt}},
			{{Id: -10, Seq: 4}, {Id: -9, Seq: 4}, {Id: 0, Seq: 4}, {Id: 2, Seq: 4}, {Id: 10, Seq: 4}},
			{{Id: api.MinInt}, {Id: -1}, {Id: 1}, {Id: 1 << 33}, {Id: api.MaxInt}},
			{{Id: 3, Seq: 1}, {Id: 5, Seq: 1}, {Id: 1, Seq: 2}, {Id: 2, Seq: 2}, {Id: 0, Seq: 3}},
		} {
			for n := range l {
				l[n].Prio, l[n].Node = prio, n
			}
			orders(len(l), func(in []int) {
				q := queue.New()
				for _, n := range in {
					q.Put(l[n])
				}
				if got := q.All(); !slices.Equal(got, l) {
					t.Fatalf("All() = %v; want %v", got, l)
				}
				for _, want := range l {
					if j, ok := q.Take(); j != want || !ok {
						t.Fatalf("Take() = %v, %t; want %v", j, ok, want)
					}
				}
			})
		}
	}
}

// Prio decides ahead of Seq, Seq ahead of the number, whatever stands behind; nothing else decides.
func TestQu2WhatDecides(t *testing.T) {
	l := []api.Job{
		{Id: 9, Prio: api.MaxInt, Seq: 99}, {Id: 8, Prio: api.MaxInt - 1, Seq: 98}, {Id: 7, Prio: 100, Seq: 97}, {Id: 6, Prio: 99, Seq: 96, Phase: 4}, {Id: 5, Prio: 10, Seq: 95, Phase: 3, Node: 9},
		{Id: 4, Prio: 9, Seq: -1, Need: api.Res{9, 9, 9}}, {Id: 3, Prio: 9, Seq: 0}, {Id: 20, Prio: 1, Seq: 5, Phase: 9, Node: 9}, {Id: 21, Prio: 1, Seq: 5, Phase: 1, Node: -1}, {Id: 2, Prio: 0, Seq: api.MinInt}, {Id: 1, Prio: 0, Seq: api.MinInt + 1},
	}
	mix := mixer(3)
	for range 300 {
		q := queue.New()
		in := slices.Clone(l)
		for n := range in {
			other := mix(len(in))
			in[n], in[other] = in[other], in[n]
		}
		for _, j := range in {
			q.Put(j)
		}
		if got := q.All(); !slices.Equal(got, l) {
			t.Fatalf("%v put: All() = %v", in, got)
		}
		for _, want := range l {
			if j, ok := q.Next(); j != want || !ok {
				t.Fatalf("Next() = %v, %t; want %v", j, ok, want)
			}
			q.Take()
		}
	}
}

// Equal Prio, and equal Seq, that come about by being put again: the order decides, not which one came last.
func TestQu2EqualPrioByMoves(t *testing.T) {
	orders(5, func(l []int) {
		r := begin(t)
		for n := range l {
			r.put(api.Job{Id: n, Prio: n, Seq: 9 - n})
		}
		for _, id := range l {
			r.put(api.Job{Id: id, Prio: 3, Seq: id / 2})
			r.next()
			r.all()
		}
		r.drain()
	})
}

// All does not change the queue, gives the same twice, and gives memory of its own.
func TestQu2AllWithoutAChange(t *testing.T) {
	r := begin(t)
	mix := mixer(9)
	for range 60 {
		r.put(api.Job{Id: mix(100) - 50, Prio: mix(3), Seq: mix(3), Node: mix(9)})
		want := r.m.order()
		for _, q := range r.queues {
			a, b := q.All(), q.All()
			if !slices.Equal(a, want) || !slices.Equal(b, want) {
				r.wrong("All() = %v, %v; want %v", a, b, want)
			}
			for n := range a {
				a[n] = api.Job{Id: 12345, Prio: -5}
			}
			_ = append(a, api.Job{Id: 1}, api.Job{Id: 2})
			_ = append(a[:0], api.Job{Id: 4}, api.Job{Id: 5})
			if !slices.Equal(b, want) {
				r.wrong("what All() told before is now %v; want %v", b, want)
			}
		}
		r.same()
	}
	before := r.queues[0].All()
	want := slices.Clone(before)
	r.put(api.Job{Id: -1000, Prio: 9})
	r.put(api.Job{Id: want[5].Id, Prio: 9, Node: 77})
	r.drop(want[3].Id)
	r.take()
	r.take()
	if !slices.Equal(before, want) {
		t.Errorf("what All() told before has changed to %v", before)
	}
	r.drain()
}

func TestQu2Len(t *testing.T) {
	q := queue.New()
	for n := range 300 {
		if q.Put(api.Job{Id: n * n, Prio: n % 7, Seq: n % 5}); q.Len() != n+1 {
			t.Fatalf("%d jobs, want %d", q.Len(), n+1)
		}
		if q.Put(api.Job{Id: n * n, Prio: n % 3, Seq: n % 2}); q.Len() != n+1 {
			t.Fatalf("%d jobs, want %d", q.Len(), n+1)
		}
		if q.Put(api.Job{Id: n*n + n, Prio: -1}); q.Len() != n+1 {
			t.Fatalf("%d jobs, want %d", q.Len(), n+1)
		}
	}
	for n := 300; n > 0; n -= 2 {
		if q.Drop(-1); q.Len() != n {
			t.Fatalf("%d jobs, want %d", q.Len(), n)
		}
		if q.Drop(q.All()[n/2].Id); q.Len() != n-1 {
			t.Fatalf("%d jobs, want %d", q.Len(), n-1)
		}
		if q.Take(); q.Len() != n-2 {
			t.Fatalf("%d jobs, want %d", q.Len(), n-2)
		}
	}
	if q.Take(); q.Len() != 0 {
		t.Fatalf("%d jobs are left", q.Len())
	}
}

func TestQu2NilQueue(t *testing.T) {
	var q *queue.Queue
	for _, id := range []int{0, 1, -1, api.MaxInt, 0} {
		if q.Put(api.Job{}) || q.Put(api.Job{Id: id, Prio: 5}) || q.Put(api.Job{Id: id, Prio: -5}) || q.Drop(id) {
			t.Error("Put or Drop is true")
		}
		if j, ok := q.Get(id); j != (api.Job{}) || ok {
			t.Errorf("Get() = %v, %t", j, ok)
		}
		if j, ok := q.Next(); j != (api.Job{}) || ok {
			t.Errorf("Next() = %v, %t", j, ok)
		}
		if j, ok := q.Take(); j != (api.Job{}) || ok {
			t.Errorf("Take() = %v, %t", j, ok)
		}
		if q.Len() != 0 || len(q.All()) != 0 {
			t.Errorf("%d jobs: %v", q.Len(), q.All())
		}
	}
}

// A zero queue is one without jobs, whichever call comes first; one that is a part of something else, too.
func TestQu2ZeroQueue(t *testing.T) {
	for n, first := range []func(q *queue.Queue) bool{
		func(q *queue.Queue) bool { return q.Put(api.Job{Id: 3, Prio: 1}) && q.Drop(3) },
		func(q *queue.Queue) bool { return !q.Put(api.Job{Id: 3, Prio: -1}) },
		func(q *queue.Queue) bool { return !q.Drop(0) },
		func(q *queue.Queue) bool { j, ok := q.Next(); return j == api.Job{} && !ok },
		func(q *queue.Queue) bool { j, ok := q.Take(); return j == api.Job{} && !ok },
		func(q *queue.Queue) bool { j, ok := q.Get(0); return j == api.Job{} && !ok },
		func(q *queue.Queue) bool { return q.Len() == 0 },
		func(q *queue.Queue) bool { return len(q.All()) == 0 },
	} {
		var parts struct {
			queue.Queue
			list [2]queue.Queue
		}
		for _, q := range []*queue.Queue{new(queue.Queue), {}, &parts.Queue, &parts.list[1]} {
			if !first(q) {
				t.Errorf("first call %d", n)
			}
			r := &trial{t: t, queues: []*queue.Queue{q}, m: model{}}
			r.same()
			r.put(api.Job{Id: 2, Prio: 1})
			r.put(api.Job{Id: 0, Prio: 1})
			r.put(api.Job{Id: 1, Prio: 2})
			r.same()
			r.drain()
		}
	}
}

// Qu3

// shortRuns are all runs of so many steps; what is asked, is asked after each one, or only behind the last one.
func shortRuns(t *testing.T, most, ids, prios, seqs int, ask bool) {
	puts := ids * (prios + 1) * seqs
	steps := puts + ids + 1
	runs := 1
	for range most {
		runs *= steps
	}
	for run := range runs {
		r := begin(t)
		left := run
		for at := range most {
			n := left % steps
			left /= steps
			switch {
			case n < puts:
				r.put(api.Job{Id: n%ids - 1, Prio: n/ids%(prios+1) - 1, Seq: n / ids / (prios + 1), Node: at})
			case n < steps-1:
				r.drop(n - puts - 1)
			default:
				r.take()
			}
			if ask {
				r.size()
				r.next()
			}
		}
		if ask {
			r.same()
		}
		r.drain()
	}
}

func TestQu3ShortRuns(t *testing.T) {
	shortRuns(t, 4, 2, 2, 2, true)
	shortRuns(t, 4, 3, 2, 1, true)
	shortRuns(t, 4, 3, 2, 1, false)
	shortRuns(t, 3, 3, 3, 2, true)
	shortRuns(t, 5, 2, 2, 1, false)
}

// Long runs in which the numbers of jobs are few, so that they are often replaced, or many; with Prios that are mostly equal, or mostly not.
func TestQu3LongRuns(t *testing.T) {
	for _, c := range []struct{ ids, prios, seqs, steps int }{{5, 2, 1, 4000}, {20, 3, 4, 4000}, {64, 100, 64, 4000}, {64, 1, 1, 2000}, {300, 4, 5, 3000}, {300, 1000, 1, 3000}} {
		mix := mixer(uint64(c.ids*c.prios + c.seqs))
		r := begin(t)
		for n := range c.steps {
			switch mix(8) {
			case 0, 1, 2, 3, 4:
				r.put(api.Job{Id: mix(c.ids) - c.ids/3, Prio: mix(c.prios), Seq: mix(c.seqs), Phase: mix(5), Node: n, Need: api.Res{n, mix(3), mix(3)}})
			case 5:
				r.put(api.Job{Id: mix(c.ids) - c.ids/3, Prio: -1 - mix(3), Node: n})
			case 6:
				r.drop(mix(c.ids) - c.ids/3)
			default:
				r.take()
			}
			r.size()
			r.next()
			r.get(mix(c.ids) - c.ids/3)
			if n%50 == 0 {
				r.same()
			}
		}
		r.same()
		r.drain()
	}
}

// taken are all jobs of a queue, taken one after the other.
func taken(q *queue.Queue) []api.Job {
	var l []api.Job
	for j, ok := q.Take(); ok; j, ok = q.Take() {
		l = append(l, j)
	}
	return l
}

// What is taken is what All told, and what layer 10 makes of the same jobs; each job is before the next one.
func TestQu3TakenAsAllTells(t *testing.T) {
	mix := mixer(17)
	for many := range 200 {
		for _, few := range []int{1, 2, 5, 1 << 30} {
			q := queue.New()
			var l []api.Job
			for n := range many {
				l = append(l, api.Job{Id: n * 7919 % 10007, Prio: mix(few), Seq: mix(few) - few/2, Phase: n, Node: -n, Need: api.Res{0, n, 0}})
			}
			for _, j := range l {
				q.Put(j)
			}
			all := q.All()
			if want := rank.Jobs(l...); !slices.Equal(all, want) {
				t.Fatalf("All() = %v; want %v", all, want)
			}
			if got := taken(q); !slices.Equal(got, all) {
				t.Fatalf("taken: %v; All() = %v", got, all)
			}
			for at := 1; at < len(all); at++ {
				if !rank.Job(all[at-1], all[at]) || rank.Job(all[at], all[at-1]) {
					t.Fatalf("%v stands ahead of %v", all[at-1], all[at])
				}
			}
			if q.Len() != 0 || len(q.All()) != 0 {
				t.Fatalf("%d jobs are left", q.Len())
			}
		}
	}
}

// So many that a search of all for each one would not end.
func TestQu3Many(t *testing.T) {
	const many = 1 << 17
	mix := mixer(21)
	q := queue.New()
	last := make([]api.Job, many)
	for range 2 {
		for n := range many {
			id := n * 40503 % many
			last[id] = api.Job{Id: id, Prio: mix(100), Seq: mix(many / 8), Node: mix(16)}
			if !q.Put(last[id]) {
				t.Fatalf("Put(%v)", last[id])
			}
		}
	}
	for id := 0; id < many; id += 3 {
		if !q.Drop(id) || q.Drop(id) {
			t.Fatalf("Drop(%d)", id)
		}
	}
	all := q.All()
	if len(all) != q.Len() || len(all) != many-(many+2)/3 {
		t.Fatalf("%d jobs in All, %d wait", len(all), q.Len())
	}
	for at, j := range all {
		if j.Id%3 == 0 || j != last[j.Id] {
			t.Fatalf("%v is in All, put was %v", j, last[j.Id])
		}
		if at > 0 && !plainBefore(all[at-1], j) {
			t.Fatalf("%v stands ahead of %v", all[at-1], j)
		}
	}
	if got := taken(q); !slices.Equal(got, all) {
		t.Fatal("what is taken is not what All told")
	}
}

// The same calls on two queues give the same answers, at any time.
func TestQu3SameCallsSameAnswers(t *testing.T) {
	var first [][]api.Job
	for round := range 5 {
		mix := mixer(31)
		q := queue.New()
		var told [][]api.Job
		for range 400 {
			q.Put(api.Job{Id: mix(50), Prio: mix(3), Seq: mix(2), Node: mix(100)})
			if mix(4) == 0 {
				q.Drop(mix(50))
			}
			if mix(5) == 0 {
				q.Take()
			}
			told = append(told, q.All())
		}
		told = append(told, taken(q))
		if round == 0 {
			first = told
		}
		for at := range told {
			if !slices.Equal(told[at], first[at]) {
				t.Fatalf("round %d, step %d: %v; before %v", round, at, told[at], first[at])
			}
		}
	}
}
