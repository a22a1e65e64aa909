package event_test

import (
	"math/big"
	"slices"
	"strings"
	"sync"
	"testing"

	"reeve/api"
	"reeve/event"
)

// The limits as the document writes them.
const (
	maxNode = 15
	maxId   = 1<<31 - 1
	maxPrio = 99
	unit    = 1 << 20
)

// names are those of all numbers of an event besides its kind.
func names() []string { return []string{"node", "inc", "job", "prio", "cores", "memory", "disk"} }

// has are the names of the numbers of a kind, in the order of the document's table; nil if there is no such kind.
func has(kind int) []string {
	switch kind {
	case 1, 2:
		return []string{"node", "inc", "cores", "memory", "disk"}
	case 3:
		return []string{"node", "inc"}
	case 4:
		return []string{"job", "prio", "cores", "memory", "disk"}
	case 5:
		return []string{"job"}
	case 6, 7:
		return []string{"job", "node", "inc"}
	}
	return nil
}

// lacks are the names of the numbers that a kind does not have.
func lacks(kind int) []string {
	return slices.DeleteFunc(names(), func(name string) bool { return slices.Contains(has(kind), name) })
}

// limits are from where to where a number is valid.
func limits(name string) (int, int) {
	switch name {
	case "node":
		return 0, maxNode
	case "inc", "job":
		return 1, maxId
	case "prio":
		return 0, maxPrio
	}
	return 0, unit
}

func get(v api.Event, name string) int {
	switch name {
	case "node":
		return v.Node
	case "inc":
		return v.Inc
	case "job":
		return v.Job
	case "prio":
		return v.Prio
	case "cores":
		return v.Res[0]
	case "memory":
		return v.Res[1]
	}
	return v.Res[2]
}

// with is an event with another number of that name.
func with(v api.Event, name string, n int) api.Event {
	switch name {
	case "node":
		v.Node = n
	case "inc":
		v.Inc = n
	case "job":
		v.Job = n
	case "prio":
		v.Prio = n
	case "cores":
		v.Res[0] = n
	case "memory":
		v.Res[1] = n
	case "disk":
		v.Res[2] = n
	}
	return v
}

// plainPure takes away what the kind does not have.
func plainPure(v api.Event) api.Event {
	if has(v.Kind) == nil {
		return api.Event{}
	}
	for _, name := range lacks(v.Kind) {
		v = with(v, name, 0)
	}
	return v
}

func plainCheck(v api.Event) api.Errno {
	if has(v.Kind) == nil {
		return api.ErrKind
	}
	for _, name := range has(v.Kind) {
		least, most := limits(name)
		if n := get(v, name); n < least || n > most {
			return api.ErrArg
		}
	}
	for _, name := range lacks(v.Kind) {
		if get(v, name) != 0 {
			return api.ErrArg
		}
	}
	return api.OK
}

// bytesOf are the bytes of a number that is not negative: groups of seven bits, the lowest first, as few as possible.
func bytesOf(n int) string {
	var b []byte
	for n > 127 {
		b = append(b, byte(n%128+128))
		n /= 128
	}
	return string(append(b, byte(n)))
}

func plainPut(v api.Event) (string, api.Errno) {
	if e := plainCheck(v); e != api.OK {
		return "", e
	}
	s := string([]byte{byte(v.Kind)})
	for _, name := range has(v.Kind) {
		s += bytesOf(get(v, name))
	}
	return s, api.OK
}

// numberOf is the number at the beginning of bytes, and what is behind it. It is computed with numbers of any size, and held against the bytes that it should have.
func numberOf(s string) (int, string, api.Errno) {
	end := strings.IndexFunc(s, func(r rune) bool { return r < 128 })
	if end < 0 {
		return 0, s, api.ErrShort
	}
	z := new(big.Int)
	for i := end; i >= 0; i-- {
		z.Lsh(z, 7)
		z.Add(z, big.NewInt(int64(s[i]%128)))
	}
	if !z.IsInt64() || bytesOf(int(z.Int64())) != s[:end+1] {
		return 0, s, api.ErrForm
	}
	return int(z.Int64()), s[end+1:], api.OK
}

func plainGet(s string) (api.Event, api.Errno) {
	if s == "" {
		return api.Event{}, api.ErrShort
	}
	v := api.Event{Kind: int(s[0])}
	if has(v.Kind) == nil {
		return api.Event{}, api.ErrKind
	}
	rest := s[1:]
	for _, name := range has(v.Kind) {
		n, behind, e := numberOf(rest)
		if e != api.OK {
			return api.Event{}, e
		}
		v, rest = with(v, name, n), behind
	}
	if rest != "" {
		return api.Event{}, api.ErrForm
	}
	if plainCheck(v) != api.OK {
		return api.Event{}, api.ErrArg
	}
	return v, api.OK
}

func checkIs(t *testing.T, v api.Event, want api.Errno) {
	t.Helper()
	if e := event.Check(v); e != want {
		t.Fatalf("Check(%+v) = %v; want %v", v, e, want)
	}
}

func putIs(t *testing.T, v api.Event, want string, e api.Errno) {
	t.Helper()
	if s, got := event.Put(v); s != want || got != e {
		t.Fatalf("Put(%+v) = %x, %v; want %x, %v", v, s, got, want, e)
	}
}

func getIs(t *testing.T, s string, want api.Event, e api.Errno) {
	t.Helper()
	if v, got := event.Get(s); v != want || got != e {
		t.Fatalf("Get(%.80x) = %+v, %v; want %+v, %v", s, v, got, want, e)
	}
}

func pureIs(t *testing.T, v, want api.Event) {
	t.Helper()
	if got := event.Pure(v); got != want {
		t.Fatalf("Pure(%+v) = %+v; want %+v", v, got, want)
	}
}

// plain holds all that can be asked about an event against the model.
func plain(t *testing.T, v api.Event) {
	t.Helper()
	checkIs(t, v, plainCheck(v))
	s, e := plainPut(v)
	putIs(t, v, s, e)
	pureIs(t, v, plainPure(v))
}

// plainly holds Get of bytes against the model.
func plainly(t *testing.T, s string) api.Errno {
	t.Helper()
	v, e := plainGet(s)
	getIs(t, s, v, e)
	return e
}

// wrongKinds are those that no event has; some would be one if they were made shorter.
func wrongKinds() []int {
	l := []int{0, 8, 9, 10, 64, 100, 127, 128, 255, api.MinInt, api.MinInt + 1, api.MaxInt, api.MaxInt - 1, -8}
	for kind := 1; kind <= 7; kind++ {
		l = append(l, -kind, ^kind, kind+8, kind+16, kind+128)
		for _, bit := range []int{8, 16, 31, 32, 53, 62, 63} {
			l = append(l, kind+1<<bit, kind-1<<bit)
		}
	}
	slices.Sort(l)
	return slices.Compact(l)
}

// edges are the numbers at which a limit is likeliest to be wrong: about each limit of the document, about the ends of numbers of fewer bits and of fewer bytes, what would be valid if it were made shorter, and the ends of int.
func edges() []int {
	l := []int{api.MinInt, api.MinInt + 1, api.MinInt + 3, api.MaxInt - 1, api.MaxInt}
	for _, n := range []int{0, maxNode, 63, maxPrio, 127, 255, 1 << 14, 1 << 15, 1 << 16, unit, 2 * unit, 1 << 21, 1 << 28, 1 << 30, maxId, 2 * maxId, 1 << 32, 1 << 35, 1 << 40, 1 << 62} {
		for by := -2; by <= 2; by++ {
			l = append(l, n+by, -n+by)
		}
	}
	slices.Sort(l)
	return slices.Compact(l)
}

// positive are those of the edges that have bytes.
func positive() []int { return slices.DeleteFunc(edges(), func(n int) bool { return n < 0 }) }

// lows and highs are the valid events whose numbers are all as small, or all as great as may be.
func lows() []api.Event {
	return []api.Event{
		{Kind: 1, Inc: 1}, {Kind: 2, Inc: 1}, {Kind: 3, Inc: 1}, {Kind: 4, Job: 1}, {Kind: 5, Job: 1}, {Kind: 6, Job: 1, Inc: 1}, {Kind: 7, Job: 1, Inc: 1},
	}
}

func highs() []api.Event {
	r := api.Res{unit, unit, unit}
	return []api.Event{
		{Kind: 1, Node: 15, Inc: maxId, Res: r}, {Kind: 2, Node: 15, Inc: maxId, Res: r}, {Kind: 3, Node: 15, Inc: maxId}, {Kind: 4, Job: maxId, Prio: 99, Res: r}, {Kind: 5, Job: maxId}, {Kind: 6, Job: maxId, Node: 15, Inc: maxId}, {Kind: 7, Job: maxId, Node: 15, Inc: maxId},
	}
}

// middles are valid events of which each number is another.
func middles() []api.Event {
	r := api.Res{300, 5, 70000}
	return []api.Event{
		{Kind: 1, Node: 3, Inc: 200, Res: r}, {Kind: 2, Node: 4, Inc: 70001, Res: r}, {Kind: 3, Node: 5, Inc: 6}, {Kind: 4, Job: 128, Prio: 7, Res: r}, {Kind: 5, Job: 300}, {Kind: 6, Job: 16384, Node: 2, Inc: 3}, {Kind: 7, Job: 1 << 30, Node: 9, Inc: 8},
	}
}

// valid are some events that are, of each kind.
func valid() []api.Event { return slices.Concat(lows(), highs(), middles()) }

// full are events of all kinds, right and wrong, with every number set.
func full() []api.Event {
	var l []api.Event
	for _, kind := range append(wrongKinds(), 1, 2, 3, 4, 5, 6, 7) {
		l = append(l, api.Event{Kind: kind, Node: 2, Inc: 3, Job: 5, Prio: 7, Res: api.Res{11, 13, 17}}, api.Event{Kind: kind, Node: -2, Inc: api.MinInt, Job: api.MaxInt, Prio: -7, Res: api.Res{-11, unit + 1, api.MinInt}}, api.Event{Kind: kind, Node: 1, Inc: 1, Job: 1, Prio: 1, Res: api.Res{1, 1, 1}})
	}
	return l
}

// mixer gives numbers of all lengths and both signs, the same in each run.
func mixer(seed uint64) func() int {
	x := seed
	return func() int {
		x = x*6364136223846793005 + 1442695040888963407
		return int(x) >> (x >> 3 % 64)
	}
}

// mixed are many events, about half of which are valid: those have all numbers within their limits; the others of any size, and in every other of those only what the kind has.
func mixed(many int) []api.Event {
	next := mixer(1)
	var l []api.Event
	for i := range many {
		v := api.Event{Kind: i%9 - i/9%2}
		for _, name := range names() {
			least, most := limits(name)
			n := next()
			if i%4 < 2 {
				n = least + n&api.MaxInt%(most-least+1)
			}
			v = with(v, name, n)
		}
		if i%4 < 3 && has(v.Kind) != nil {
			v = plainPure(v)
		}
		l = append(l, v)
	}
	return l
}

// grid hands out the events of a kind with all combinations of numbers at and beyond their limits.
func grid(kind int, do func(v api.Event)) {
	vectors := []api.Res{{}, {unit, unit, unit}, {0, 1, 0}, {-1, 0, 0}, {0, -1, 0}, {0, 0, -1}, {unit + 1, 0, 0}, {0, unit + 1, 0}, {0, 0, unit + 1}, {-1, 1, 0}}
	for _, node := range []int{-1, 0, 1, maxNode, maxNode + 1} {
		for _, inc := range []int{-1, 0, 1, maxId, maxId + 1} {
			for _, job := range []int{-1, 0, 1, maxId, maxId + 1} {
				for _, prio := range []int{-1, 0, 1, maxPrio, maxPrio + 1} {
					for _, r := range vectors {
						do(api.Event{Kind: kind, Node: node, Inc: inc, Job: job, Prio: prio, Res: r})
					}
				}
			}
		}
	}
}

// parts are the bytes of a valid event, apart: the kind, and each number.
func parts(v api.Event) []string {
	l := []string{string([]byte{byte(v.Kind)})}
	for _, name := range has(v.Kind) {
		l = append(l, bytesOf(get(v, name)))
	}
	return l
}

// instead is parts with other ones at one position, joined.
func instead(l []string, at int, part string) string {
	l = slices.Clone(l)
	l[at] = part
	return strings.Join(l, "")
}

// noNumbers are bytes that end as a number's do, but are no number's: too long, or too great.
func noNumbers() []string {
	return []string{
		"\x80\x00", "\x81\x00", "\xff\x00", "\x80\x80\x00", "\xff\xff\x00", "\x8f\x80\x80\x00",
		strings.Repeat("\x80", 8) + "\x00", strings.Repeat("\xff", 8) + "\x00", strings.Repeat("\x80", 9) + "\x00", strings.Repeat("\x80", 9) + "\x01", strings.Repeat("\x81", 9) + "\x01", strings.Repeat("\xff", 9) + "\x00", strings.Repeat("\xff", 9) + "\x01", strings.Repeat("\xff", 9) + "\x7f",
		strings.Repeat("\x80", 10) + "\x01", strings.Repeat("\x80", 63) + "\x01", strings.Repeat("\xff", 300) + "\x7f",
	}
}

// short are all bytes of up to so many letters.
func short(most int, letters string) []string {
	all := []string{""}
	from := 0
	for range most {
		to := len(all)
		for _, s := range all[from:to] {
			for i := range len(letters) {
				all = append(all, s+letters[i:i+1])
			}
		}
		from = to
	}
	return all
}

// near are the bytes that differ from others by one step: one byte is another, is missing, occurs twice, is let in; two are exchanged; they are cut off; others are behind them.
func near(s string) []string {
	var l []string
	for i := range len(s) {
		for b := range 256 {
			l = append(l, s[:i]+string([]byte{byte(b)})+s[i+1:])
		}
		for _, in := range []string{"\x00", "\x01", "\x7f", "\x80", "\xff"} {
			l = append(l, s[:i]+in+s[i:])
		}
		l = append(l, s[:i]+s[i+1:], s[:i+1]+s[i:], s[:i], s[i:])
		if i > 0 {
			l = append(l, s[:i-1]+s[i:i+1]+s[i-1:i]+s[i+1:])
		}
	}
	for b := range 256 {
		l = append(l, s+string([]byte{byte(b)}), s+string([]byte{0, byte(b)}))
	}
	return append(l, s+s, s+"\x80\x80", s+strings.Repeat("\x00", 300))
}

// many hands out bytes of all sorts, those that can be read among them.
func many(do func(s string)) {
	for _, s := range short(4, "\x00\x01\x02\x03\x04\x05\x06\x07\x08\x0f\x10\x63\x64\x7f\x80\xff") {
		do(s)
	}
	tails := short(6, "\x00\x01\x10\x64\x80")
	for kind := 1; kind <= 7; kind++ {
		for _, tail := range tails {
			do(string([]byte{byte(kind)}) + tail)
		}
	}
	for _, v := range valid() {
		for _, s := range near(strings.Join(parts(v), "")) {
			do(s)
		}
	}
}

// Ev1

func TestEv1CheckValid(t *testing.T) {
	for _, v := range valid() {
		checkIs(t, v, api.OK)
	}
	for _, v := range []api.Event{
		{Kind: api.EvJoin, Node: 0, Inc: 1, Res: api.Res{1, 2, 3}}, {Kind: api.EvResize, Node: 15, Inc: 5}, {Kind: api.EvGone, Node: 0, Inc: maxId}, {Kind: api.EvSubmit, Job: 1, Prio: 0, Res: api.Res{unit, 0, 0}}, {Kind: api.EvSubmit, Job: maxId, Prio: 99, Res: api.Res{0, 0, unit}}, {Kind: api.EvCancel, Job: 300}, {Kind: api.EvRun, Job: 1, Node: 15, Inc: 1}, {Kind: api.EvDone, Job: maxId, Node: 0, Inc: maxId},
	} {
		checkIs(t, v, api.OK)
	}
}

func TestEv1CheckArgExamples(t *testing.T) {
	for _, v := range []api.Event{
		{Kind: api.EvJoin, Node: -1, Inc: 1}, {Kind: api.EvJoin, Node: 16, Inc: 1}, {Kind: api.EvJoin}, {Kind: api.EvJoin, Inc: -1}, {Kind: api.EvJoin, Inc: maxId + 1}, {Kind: api.EvJoin, Inc: 1, Res: api.Res{-1, 0, 0}}, {Kind: api.EvJoin, Inc: 1, Res: api.Res{0, unit + 1, 0}}, {Kind: api.EvJoin, Inc: 1, Job: 1}, {Kind: api.EvJoin, Inc: 1, Prio: 1},
		{Kind: api.EvResize, Node: 16, Inc: 1}, {Kind: api.EvResize, Inc: 1, Res: api.Res{0, 0, -1}}, {Kind: api.EvResize, Inc: 1, Job: 1},
		{Kind: api.EvGone}, {Kind: api.EvGone, Node: 16, Inc: 1}, {Kind: api.EvGone, Inc: 1, Res: api.Res{0, 0, 1}}, {Kind: api.EvGone, Inc: 1, Job: 1}, {Kind: api.EvGone, Inc: 1, Prio: 1},
		{Kind: api.EvSubmit}, {Kind: api.EvSubmit, Job: 1, Prio: 100}, {Kind: api.EvSubmit, Job: 1, Prio: -1}, {Kind: api.EvSubmit, Job: 1, Res: api.Res{unit + 1, 0, 0}}, {Kind: api.EvSubmit, Job: 1, Inc: 1}, {Kind: api.EvSubmit, Job: 1, Node: 1},
		{Kind: api.EvCancel}, {Kind: api.EvCancel, Job: -1}, {Kind: api.EvCancel, Job: maxId + 1}, {Kind: api.EvCancel, Job: 1, Prio: 1}, {Kind: api.EvCancel, Job: 1, Node: 1}, {Kind: api.EvCancel, Job: 1, Inc: 1}, {Kind: api.EvCancel, Job: 1, Res: api.Res{1, 0, 0}},
		{Kind: api.EvRun}, {Kind: api.EvRun, Job: 1}, {Kind: api.EvRun, Inc: 1}, {Kind: api.EvRun, Job: 1, Inc: 1, Node: 16}, {Kind: api.EvRun, Job: 1, Inc: 1, Prio: 1}, {Kind: api.EvRun, Job: 1, Inc: 1, Res: api.Res{0, 1, 0}},
		{Kind: api.EvDone}, {Kind: api.EvDone, Job: 1}, {Kind: api.EvDone, Inc: 1}, {Kind: api.EvDone, Job: 1, Inc: 1, Node: -1}, {Kind: api.EvDone, Job: 1, Inc: 1, Prio: -1}, {Kind: api.EvDone, Job: 1, Inc: 1, Res: api.Res{-1, 1, 0}},
	} {
		checkIs(t, v, api.ErrArg)
		putIs(t, v, "", api.ErrArg)
	}
}

// Each number of each kind, at its limits, beyond them and far off, beside numbers that are small, great and between.
func TestEv1CheckLimits(t *testing.T) {
	for _, v := range valid() {
		for _, name := range has(v.Kind) {
			least, most := limits(name)
			for _, n := range edges() {
				want := api.ErrArg
				if n >= least && n <= most {
					want = api.OK
				}
				checkIs(t, with(v, name, n), want)
			}
		}
	}
}

// A number that the kind does not have must be 0, however little it differs from that; and two of them do not make up for each other.
func TestEv1CheckOtherFields(t *testing.T) {
	for _, v := range valid() {
		for _, name := range lacks(v.Kind) {
			for _, n := range edges() {
				want := api.ErrArg
				if n == 0 {
					want = api.OK
				}
				checkIs(t, with(v, name, n), want)
				for _, other := range lacks(v.Kind) {
					if other != name && n != 0 {
						checkIs(t, with(with(v, name, n), other, -n), api.ErrArg)
						checkIs(t, with(with(v, name, n), other, n), api.ErrArg)
					}
				}
			}
			for bit := range 64 {
				checkIs(t, with(v, name, 1<<bit), api.ErrArg)
			}
		}
	}
}

// A kind that is none comes ahead of what is not valid.
func TestEv1WrongKinds(t *testing.T) {
	for _, kind := range wrongKinds() {
		for _, v := range append(valid(), full()...) {
			v.Kind = kind
			checkIs(t, v, api.ErrKind)
			putIs(t, v, "", api.ErrKind)
			pureIs(t, v, api.Event{})
		}
		checkIs(t, api.Event{Kind: kind}, api.ErrKind)
		putIs(t, api.Event{Kind: kind}, "", api.ErrKind)
		pureIs(t, api.Event{Kind: kind}, api.Event{})
	}
}

// What is valid for one kind, asked of each other kind.
func TestEv1CheckKindsApart(t *testing.T) {
	for _, v := range append(valid(), full()...) {
		for kind := -1; kind <= 9; kind++ {
			v.Kind = kind
			plain(t, v)
		}
	}
}

// All combinations of numbers at and beyond their limits, of each kind.
func TestEv1Grid(t *testing.T) {
	for kind := 0; kind <= 8; kind++ {
		good := 0
		grid(kind, func(v api.Event) {
			if plain(t, v); plainCheck(v) == api.OK {
				good++
			}
		})
		if want := []int{0, 18, 18, 6, 18, 2, 12, 12, 0}[kind]; good != want {
			t.Errorf("%d events of kind %d are valid; want %d", good, kind, want)
		}
	}
}

func TestEv1Mixed(t *testing.T) {
	good := 0
	l := mixed(40000)
	for _, v := range l {
		if plain(t, v); plainCheck(v) == api.OK {
			good++
		}
	}
	if good < len(l)/3 || good > len(l)*2/3 {
		t.Errorf("%d of %d events are valid", good, len(l))
	}
}

// The example of the document, and others.
func TestEv1PutExamples(t *testing.T) {
	for _, c := range []struct {
		v    api.Event
		want string
	}{
		{api.Event{Kind: api.EvCancel, Job: 300}, "\x05\xac\x02"},
		{api.Event{Kind: api.EvCancel, Job: 1}, "\x05\x01"},
		{api.Event{Kind: api.EvCancel, Job: 127}, "\x05\x7f"},
		{api.Event{Kind: api.EvCancel, Job: 128}, "\x05\x80\x01"},
		{api.Event{Kind: api.EvCancel, Job: maxId}, "\x05\xff\xff\xff\xff\x07"},
		{api.Event{Kind: api.EvJoin, Node: 1, Inc: 2, Res: api.Res{3, 4, 5}}, "\x01\x01\x02\x03\x04\x05"},
		{api.Event{Kind: api.EvJoin, Inc: 1}, "\x01\x00\x01\x00\x00\x00"},
		{api.Event{Kind: api.EvJoin, Node: 15, Inc: maxId, Res: api.Res{unit, unit - 1, 0}}, "\x01\x0f\xff\xff\xff\xff\x07\x80\x80\x40\xff\xff\x3f\x00"},
		{api.Event{Kind: api.EvResize, Node: 1, Inc: 2, Res: api.Res{3, 4, 5}}, "\x02\x01\x02\x03\x04\x05"},
		{api.Event{Kind: api.EvGone, Node: 1, Inc: 2}, "\x03\x01\x02"},
		{api.Event{Kind: api.EvGone, Node: 0, Inc: 16384}, "\x03\x00\x80\x80\x01"},
		{api.Event{Kind: api.EvSubmit, Job: 1, Prio: 2, Res: api.Res{3, 4, 5}}, "\x04\x01\x02\x03\x04\x05"},
		{api.Event{Kind: api.EvSubmit, Job: 200, Prio: 99, Res: api.Res{0, 300, 0}}, "\x04\xc8\x01\x63\x00\xac\x02\x00"},
		{api.Event{Kind: api.EvRun, Job: 1, Node: 2, Inc: 3}, "\x06\x01\x02\x03"},
		{api.Event{Kind: api.EvRun, Job: 300, Node: 0, Inc: 128}, "\x06\xac\x02\x00\x80\x01"},
		{api.Event{Kind: api.EvDone, Job: 1, Node: 2, Inc: 3}, "\x07\x01\x02\x03"},
	} {
		putIs(t, c.v, c.want, api.OK)
		getIs(t, c.want, c.v, api.OK)
		pureIs(t, c.v, c.v)
	}
}

// Every number that is valid up to some, and the edges, at each place.
func TestEv1PutNumbers(t *testing.T) {
	for _, v := range valid() {
		for at, name := range has(v.Kind) {
			least, most := limits(name)
			for n := least; n <= min(most, 400); n++ {
				putIs(t, with(v, name, n), instead(parts(v), at+1, bytesOf(n)), api.OK)
			}
			for _, n := range edges() {
				want, e := "", api.ErrArg
				if n >= least && n <= most {
					want, e = instead(parts(v), at+1, bytesOf(n)), api.OK
				}
				putIs(t, with(v, name, n), want, e)
			}
		}
	}
}

// Put of an event that is not valid gives nothing, though what the kind has is valid.
func TestEv1PutOtherFields(t *testing.T) {
	for _, v := range valid() {
		for _, name := range lacks(v.Kind) {
			for _, n := range []int{api.MinInt, -1, 1, 2, 15, 1 << 32, api.MaxInt} {
				putIs(t, with(v, name, n), "", api.ErrArg)
			}
		}
	}
}

// Each kind with every field set.
func TestEv1PureExamples(t *testing.T) {
	all := api.Event{Node: 2, Inc: 3, Job: 5, Prio: 7, Res: api.Res{11, 13, 17}}
	for kind, want := range []api.Event{
		{},
		{Kind: 1, Node: 2, Inc: 3, Res: api.Res{11, 13, 17}},
		{Kind: 2, Node: 2, Inc: 3, Res: api.Res{11, 13, 17}},
		{Kind: 3, Node: 2, Inc: 3},
		{Kind: 4, Job: 5, Prio: 7, Res: api.Res{11, 13, 17}},
		{Kind: 5, Job: 5},
		{Kind: 6, Job: 5, Node: 2, Inc: 3},
		{Kind: 7, Job: 5, Node: 2, Inc: 3},
		{}, {},
	} {
		all.Kind = kind
		pureIs(t, all, want)
		pureIs(t, want, want)
		checkIs(t, want, plainCheck(want))
	}
	pureIs(t, api.Event{Kind: 9, Job: 1}, api.Event{})
	pureIs(t, api.Event{Kind: -1, Res: api.Res{1, 2, 3}}, api.Event{})
	pureIs(t, api.Event{}, api.Event{})
}

// What the kind has stays as it is, valid or not.
func TestEv1PureKeeps(t *testing.T) {
	for _, v := range append(valid(), full()...) {
		for _, name := range names() {
			for _, n := range edges() {
				got := with(v, name, n)
				pureIs(t, got, plainPure(got))
			}
		}
	}
	wild := api.Event{Kind: api.EvCancel, Job: -5, Node: 3}
	pureIs(t, wild, api.Event{Kind: api.EvCancel, Job: -5})
	wild = api.Event{Kind: api.EvSubmit, Job: api.MinInt, Prio: api.MaxInt, Res: api.Res{-1, unit + 1, api.MinInt}, Inc: 4}
	pureIs(t, wild, api.Event{Kind: api.EvSubmit, Job: api.MinInt, Prio: api.MaxInt, Res: api.Res{-1, unit + 1, api.MinInt}})
}

// Of each kind with nothing but itself.
func TestEv1KindAlone(t *testing.T) {
	for kind := 1; kind <= 7; kind++ {
		v := api.Event{Kind: kind}
		checkIs(t, v, api.ErrArg)
		putIs(t, v, "", api.ErrArg)
		pureIs(t, v, v)
	}
}

// Ev2

func TestEv2Examples(t *testing.T) {
	for _, c := range []struct {
		s    string
		want api.Event
		e    api.Errno
	}{
		{"\x05\xac\x02", api.Event{Kind: api.EvCancel, Job: 300}, api.OK},
		{"\x06\x01\x02\x03", api.Event{Kind: api.EvRun, Job: 1, Node: 2, Inc: 3}, api.OK},
		{"\x01\x0f\x01\x00\x00\x00", api.Event{Kind: api.EvJoin, Node: 15, Inc: 1}, api.OK},
		{"\x04\x07\x63\x00\x80\x80\x40\x00", api.Event{Kind: api.EvSubmit, Job: 7, Prio: 99, Res: api.Res{0, unit, 0}}, api.OK},
		{"", api.Event{}, api.ErrShort},
		{"\x00", api.Event{}, api.ErrKind}, {"\x08", api.Event{}, api.ErrKind}, {"\xff", api.Event{}, api.ErrKind}, {"\x80", api.Event{}, api.ErrKind}, {"\x85\x00\x01", api.Event{}, api.ErrKind}, {"\x08\x01", api.Event{}, api.ErrKind},
		{"\x05", api.Event{}, api.ErrShort}, {"\x05\x80", api.Event{}, api.ErrShort}, {"\x05\xff\xff", api.Event{}, api.ErrShort},
		{"\x05\x80\x00", api.Event{}, api.ErrForm}, {"\x05\x01\x00", api.Event{}, api.ErrForm}, {"\x05\x01\x80", api.Event{}, api.ErrForm}, {"\x05\x01\x05\x01", api.Event{}, api.ErrForm},
		{"\x05\x00", api.Event{}, api.ErrArg}, {"\x05\x80\x80\x80\x80\x08", api.Event{}, api.ErrArg}, {"\x03\x10\x01", api.Event{}, api.ErrArg}, {"\x03\x0f\x00", api.Event{}, api.ErrArg}, {"\x04\x01\x64\x00\x00\x00", api.Event{}, api.ErrArg}, {"\x04\x01\x00\x81\x80\x40\x00\x00", api.Event{}, api.ErrArg},
		// What is left over comes ahead of what is not valid, and a number that is none ahead of both.
		{"\x05\x00\x00", api.Event{}, api.ErrForm}, {"\x03\x10\x01\x01", api.Event{}, api.ErrForm}, {"\x03\x10", api.Event{}, api.ErrShort}, {"\x03\x10\x80\x00", api.Event{}, api.ErrForm},
		// Of several numbers, the first one that is none.
		{"\x03\x80\x00", api.Event{}, api.ErrForm}, {"\x03\x80\x00\x80", api.Event{}, api.ErrForm}, {"\x03\x01\x80", api.Event{}, api.ErrShort}, {"\x03\x80", api.Event{}, api.ErrShort},
	} {
		getIs(t, c.s, c.want, c.e)
	}
}

// The first byte alone decides whether there is such a kind, whatever is behind it.
func TestEv2FirstByte(t *testing.T) {
	for b := range 256 {
		for _, tail := range []string{"", "\x01", "\x01\x01\x01", "\x01\x01\x01\x01\x01", "\x80", "\x80\x00", "\x00", "\x05\x01", strings.Repeat("\x01", 40)} {
			s := string([]byte{byte(b)}) + tail
			if b < 1 || b > 7 {
				getIs(t, s, api.Event{}, api.ErrKind)
			} else if e := plainly(t, s); e == api.ErrKind {
				t.Fatalf("%x: the model is wrong", s)
			}
		}
	}
}

// The bytes of every kind, cut off after each byte.
func TestEv2Cut(t *testing.T) {
	for _, v := range append(valid(), mixed(2000)...) {
		s, e := plainPut(v)
		if e != api.OK {
			continue
		}
		getIs(t, s, v, api.OK)
		for end := range len(s) {
			getIs(t, s[:end], api.Event{}, api.ErrShort)
		}
	}
}

// The bytes of every kind, with others behind them.
func TestEv2LeftOver(t *testing.T) {
	for _, v := range valid() {
		s := strings.Join(parts(v), "")
		for b := range 256 {
			getIs(t, s+string([]byte{byte(b)}), api.Event{}, api.ErrForm)
		}
		for _, tail := range []string{"\x80\x80", "\x00\x00", s, s[1:], strings.Repeat("\x00", 300)} {
			getIs(t, s+tail, api.Event{}, api.ErrForm)
		}
	}
}

// A number that is none, at each place; whatever is ahead of it and behind it, as far as what is ahead are numbers.
func TestEv2NoNumber(t *testing.T) {
	for _, v := range valid() {
		l := parts(v)
		for at := 1; at < len(l); at++ {
			for _, no := range noNumbers() {
				getIs(t, instead(l, at, no), api.Event{}, api.ErrForm)
				getIs(t, instead(l[:at+1], at, no), api.Event{}, api.ErrForm)
				getIs(t, instead(l[:at+1], at, no)+"\x80", api.Event{}, api.ErrForm)
				getIs(t, instead(l, at, no)+"\x00", api.Event{}, api.ErrForm)
				getIs(t, instead(l[:at+1], at, no[:len(no)-1]), api.Event{}, api.ErrShort)
				for before := 1; before < at; before++ {
					wrong := slices.Clone(l[:at+1])
					wrong[before] = bytesOf(api.MaxInt)
					getIs(t, instead(wrong, at, no), api.Event{}, api.ErrForm)
					getIs(t, instead(wrong, at, "\x80"), api.Event{}, api.ErrShort)
					getIs(t, instead(wrong, at, ""), api.Event{}, api.ErrShort)
					wrong[before] = no
					getIs(t, instead(wrong, at, "\x80"), api.Event{}, api.ErrForm)
					getIs(t, instead(wrong, at, ""), api.Event{}, api.ErrForm)
				}
			}
		}
	}
}

// Each number of each kind as all the edges that have bytes: within its limits it is read, beyond them the event is not valid.
func TestEv2Limits(t *testing.T) {
	for _, v := range valid() {
		l := parts(v)
		for at, name := range has(v.Kind) {
			least, most := limits(name)
			for _, n := range positive() {
				s := instead(l, at+1, bytesOf(n))
				if n >= least && n <= most {
					getIs(t, s, with(v, name, n), api.OK)
				} else {
					getIs(t, s, api.Event{}, api.ErrArg)
				}
				getIs(t, s+"\x01", api.Event{}, api.ErrForm)
				getIs(t, s[:len(s)-1], api.Event{}, api.ErrShort)
			}
		}
	}
}

// All of many bytes, each held against the model.
func TestEv2Many(t *testing.T) {
	seen := map[api.Errno]int{}
	many(func(s string) { seen[plainly(t, s)]++ })
	for _, e := range []api.Errno{api.OK, api.ErrShort, api.ErrKind, api.ErrForm, api.ErrArg} {
		if seen[e] < 1000 {
			t.Errorf("only %d bytes with %v", seen[e], e)
		}
	}
	if len(seen) != 5 {
		t.Error(seen)
	}
}

// Bytes of any kind, half of them made of numbers.
func TestEv2Mixed(t *testing.T) {
	next := mixer(2)
	for i := range 60000 {
		b := []byte{byte(1 + i%7)}
		for range i % 9 {
			if i%2 == 0 {
				b = append(b, bytesOf(next()&api.MaxInt)...)
			} else {
				b = append(b, byte(next()))
			}
		}
		plainly(t, string(b))
	}
}

// No call depends on those before it, and calls at once do not disturb each other.
func TestEv2CallsApart(t *testing.T) {
	l := append(valid(), full()...)
	for _, v := range l {
		for _, w := range valid() {
			plain(t, v)
			plain(t, w)
			getIs(t, strings.Join(parts(w), ""), w, api.OK)
		}
	}
	wrong := make([]int, 8)
	var all sync.WaitGroup
	for n := range wrong {
		all.Go(func() {
			for i := range 4000 {
				v := l[(i*7+n*31)%len(l)]
				want, e := plainPut(v)
				s, got := event.Put(v)
				w, again := event.Get(s)
				if s != want || got != e || event.Check(v) != e || event.Pure(v) != plainPure(v) || e == api.OK && (w != v || again != api.OK) || e != api.OK && again != api.ErrShort {
					wrong[n]++
				}
			}
		})
	}
	all.Wait()
	if slices.Max(wrong) > 0 {
		t.Error(wrong)
	}
}

// Ev3

func TestEv3EventsComeBack(t *testing.T) {
	back := 0
	for _, v := range append(valid(), mixed(40000)...) {
		s, e := event.Put(v)
		if e != api.OK {
			continue
		}
		back++
		getIs(t, s, v, api.OK)
	}
	if back < 10000 {
		t.Errorf("only %d events", back)
	}
	for kind := 1; kind <= 7; kind++ {
		grid(kind, func(v api.Event) {
			if s, e := event.Put(v); e == api.OK {
				getIs(t, s, v, api.OK)
			}
		})
	}
}

// Bytes that can be read are those of the event, and no others.
func TestEv3BytesComeBack(t *testing.T) {
	back := 0
	many(func(s string) {
		v, e := event.Get(s)
		if e != api.OK {
			return
		}
		back++
		checkIs(t, v, api.OK)
		pureIs(t, v, v)
		putIs(t, v, s, api.OK)
	})
	if back < 1000 {
		t.Errorf("only %d bytes", back)
	}
}

// Events that differ have different bytes, and no event's are the beginning of another's.
func TestEv3BytesApart(t *testing.T) {
	was := map[string]api.Event{}
	var all []string
	for _, v := range append(valid(), mixed(20000)...) {
		s, e := event.Put(v)
		if e != api.OK {
			continue
		}
		if w, ok := was[s]; ok && w != v {
			t.Fatalf("%x are the bytes of %+v and of %+v", s, v, w)
		}
		was[s] = v
		all = append(all, s)
	}
	slices.Sort(all)
	all = slices.Compact(all)
	for i := 1; i < len(all); i++ {
		if strings.HasPrefix(all[i], all[i-1]) {
			t.Fatalf("%x is the beginning of %x", all[i-1], all[i])
		}
	}
}

// Pure does not change what Pure returned, and what is valid it does not change either.
func TestEv3PureTwice(t *testing.T) {
	for _, v := range slices.Concat(valid(), full(), mixed(40000)) {
		w := event.Pure(v)
		pureIs(t, w, w)
		if event.Check(v) == api.OK {
			pureIs(t, v, v)
		}
		if (event.Check(v) == api.ErrKind) != (w == api.Event{}) {
			t.Fatalf("Pure(%+v) = %+v", v, w)
		}
	}
}
