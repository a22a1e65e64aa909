package record_test

import (
	"encoding/binary"
	"hash/crc32"
	"slices"
	"strings"
	"sync"
	"testing"

	"reeve/api"
	"reeve/event"
	"reeve/record"
)

// The limits as the document writes them.
const (
	maxId    = 1<<31 - 1
	maxEpoch = 1<<32 - 1
	maxBody  = 200
	unit     = 1 << 20
)

// text is one byte as a text.
func text(b int) string { return string([]byte{byte(b)}) }

// bytesOf are the bytes of a number that is not negative.
func bytesOf(n int) string { return string(binary.AppendUvarint(nil, uint64(n))) }

// numberOf is the number at the beginning of bytes, and what is behind it; it has the bytes that it should have, and no others.
func numberOf(s string) (int, string, api.Errno) {
	end := strings.IndexFunc(s, func(r rune) bool { return r < 128 })
	if end < 0 {
		return 0, "", api.ErrShort
	}
	n, _ := binary.Uvarint([]byte(s[:end+1]))
	if n > api.MaxInt || bytesOf(int(n)) != s[:end+1] {
		return 0, "", api.ErrForm
	}
	return int(n), s[end+1:], api.OK
}

// frameOf is what the document says of a frame, by the library's sum; of any length that two bytes hold, so that wrong ones can be made as well.
func frameOf(body string) string {
	b := binary.BigEndian.AppendUint16([]byte{82}, uint16(len(body)))
	b = append(b, body...)
	return string(binary.BigEndian.AppendUint32(b, crc32.ChecksumIEEE(b[1:])))
}

// bodyOf is what the document says of the frame in front, condition by condition.
func bodyOf(s string) (string, int, api.Errno) {
	switch {
	case s == "":
		return "", 0, api.ErrShort
	case s[0] != 82:
		return "", 0, api.ErrForm
	case len(s) < 3:
		return "", 0, api.ErrShort
	}
	size := 256*int(s[1]) + int(s[2])
	switch {
	case size > maxBody:
		return "", 0, api.ErrMany
	case len(s) < size+7:
		return "", 0, api.ErrShort
	case s[:size+7] != frameOf(s[3:size+3]):
		return "", 0, api.ErrSum
	}
	return s[3 : size+3], size + 7, api.OK
}

func plainCheck(r api.Record) api.Errno {
	if r.Seq < 1 || r.Seq > maxId || r.Epoch < 1 || r.Epoch > maxEpoch {
		return api.ErrArg
	}
	return event.Check(r.Event)
}

// parts are the bytes of a valid record's body, apart: of Seq, of Epoch, and of the event.
func parts(r api.Record) []string {
	s, _ := event.Put(r.Event)
	return []string{bytesOf(r.Seq), bytesOf(r.Epoch), s}
}

// instead is a body of the parts with another one at a place.
func instead(l []string, at int, part string) string {
	l = slices.Clone(l)
	l[at] = part
	return strings.Join(l, "")
}

func plainSeal(r api.Record) (string, api.Errno) {
	if e := plainCheck(r); e != api.OK {
		return "", e
	}
	return frameOf(strings.Join(parts(r), "")), api.OK
}

func plainOpen(s string) (api.Record, int, api.Errno) {
	body, size, e := bodyOf(s)
	if e != api.OK {
		return api.Record{}, 0, e
	}
	seq, rest, e := numberOf(body)
	if e != api.OK {
		return api.Record{}, 0, e
	}
	epoch, rest, e := numberOf(rest)
	if e != api.OK {
		return api.Record{}, 0, e
	}
	v, e := event.Get(rest)
	if e != api.OK {
		return api.Record{}, 0, e
	}
	r := api.Record{Seq: seq, Epoch: epoch, Event: v}
	if plainCheck(r) != api.OK {
		return api.Record{}, 0, api.ErrArg
	}
	return r, size, api.OK
}

func checkIs(t *testing.T, r api.Record, want api.Errno) {
	t.Helper()
	if e := record.Check(r); e != want {
		t.Fatalf("Check(%+v) = %v; want %v", r, e, want)
	}
}

func sealIs(t *testing.T, r api.Record, want string, e api.Errno) {
	t.Helper()
	if s, got := record.Seal(r); s != want || got != e {
		t.Fatalf("Seal(%+v) = %x, %v; want %x, %v", r, s, got, want, e)
	}
}

func openIs(t *testing.T, s string, want api.Record, size int, e api.Errno) {
	t.Helper()
	if r, n, got := record.Open(s); r != want || n != size || got != e {
		t.Fatalf("Open of %d bytes, %.250x = %+v, %d, %v; want %+v, %d, %v", len(s), s, r, n, got, want, size, e)
	}
}

// wrong tells that bytes begin with no record, and why.
func wrong(t *testing.T, s string, e api.Errno) {
	t.Helper()
	openIs(t, s, api.Record{}, 0, e)
}

// wrongBody tells that a body is no record's, in a whole frame, whatever is behind that.
func wrongBody(t *testing.T, body string, e api.Errno) {
	t.Helper()
	wrong(t, frameOf(body), e)
	wrong(t, frameOf(body)+"\x01", e)
}

// plain holds all that can be asked about a record against the model.
func plain(t *testing.T, r api.Record) api.Errno {
	t.Helper()
	s, e := plainSeal(r)
	checkIs(t, r, e)
	sealIs(t, r, s, e)
	if e == api.OK {
		openIs(t, s, r, len(s), api.OK)
	}
	return e
}

// plainly holds Open of bytes against the model.
func plainly(t *testing.T, s string) api.Errno {
	t.Helper()
	r, size, e := plainOpen(s)
	openIs(t, s, r, size, e)
	return e
}

// allSorts tells that bodies in whole frames had each of their errors at least so often, and no other one.
func allSorts(t *testing.T, seen map[api.Errno]int, least int) {
	t.Helper()
	for _, e := range []api.Errno{api.OK, api.ErrShort, api.ErrKind, api.ErrForm, api.ErrArg} {
		if seen[e] < least {
			t.Errorf("only %d bodies with %v", seen[e], e)
		}
	}
	if len(seen) != 5 {
		t.Error(seen)
	}
}

// edges are the numbers at which a limit is likeliest to be wrong: about each limit of the document, about the ends of numbers of fewer bits and of fewer bytes, what would be valid if it were made shorter, and the ends of int.
func edges() []int {
	l := []int{api.MinInt, api.MinInt + 1, api.MinInt + 3, api.MaxInt - 1, api.MaxInt}
	for _, n := range []int{0, 15, 99, 127, 255, 1 << 14, 1 << 16, unit, 1 << 21, 1 << 28, 1 << 30, maxId, maxEpoch, 2 * maxEpoch, 1 << 35, 1 << 40, 1 << 42, 1 << 49, 1 << 53, 1 << 62} {
		for by := -2; by <= 2; by++ {
			l = append(l, n+by, -n+by)
		}
	}
	slices.Sort(l)
	return slices.Compact(l)
}

// positive are those of the edges that have bytes.
func positive() []int { return slices.DeleteFunc(edges(), func(n int) bool { return n < 0 }) }

// events are valid ones, of each kind: with the least numbers, with the greatest ones, and with others.
func events() []api.Event {
	most, some := api.Res{unit, unit, unit}, api.Res{300, 5, 70000}
	return []api.Event{
		{Kind: 1, Inc: 1}, {Kind: 2, Inc: 1}, {Kind: 3, Inc: 1}, {Kind: 4, Job: 1}, {Kind: 5, Job: 1}, {Kind: 6, Job: 1, Inc: 1}, {Kind: 7, Job: 1, Inc: 1},
		{Kind: 1, Node: 15, Inc: maxId, Res: most}, {Kind: 2, Node: 15, Inc: maxId, Res: most}, {Kind: 3, Node: 15, Inc: maxId}, {Kind: 4, Job: maxId, Prio: 99, Res: most}, {Kind: 5, Job: maxId}, {Kind: 6, Job: maxId, Node: 15, Inc: maxId}, {Kind: 7, Job: maxId, Node: 15, Inc: maxId},
		{Kind: 1, Node: 3, Inc: 200, Res: some}, {Kind: 2, Node: 4, Inc: 70001, Res: some}, {Kind: 3, Node: 5, Inc: 6}, {Kind: 4, Job: 128, Prio: 7, Res: some}, {Kind: 5, Job: 300}, {Kind: 6, Job: 16384, Node: 2, Inc: 3}, {Kind: 7, Job: 1 << 30, Node: 9, Inc: 8},
	}
}

// noKinds are events of kinds that there are not; some would be one's if they were made shorter.
func noKinds() []api.Event {
	var l []api.Event
	for _, kind := range []int{0, 8, 9, 127, 128, 255, 256, 261, -1, -5, 5 + 1<<32, 5 - 1<<32, api.MinInt, api.MinInt + 5, api.MaxInt} {
		l = append(l, api.Event{Kind: kind}, api.Event{Kind: kind, Job: 1}, api.Event{Kind: kind, Job: -1, Node: 16, Res: api.Res{-1, 0, 0}})
	}
	return l
}

// fields are all numbers of an event.
func fields(v *api.Event) []*int {
	return []*int{&v.Kind, &v.Node, &v.Job, &v.Inc, &v.Prio, &v.Res[0], &v.Res[1], &v.Res[2]}
}

// noEvents are events of kinds that there are, with a field that is not valid or that the kind does not have.
func noEvents() []api.Event {
	l := []api.Event{
		{Kind: 1}, {Kind: 2, Inc: maxId + 1}, {Kind: 3, Node: 16, Inc: 1}, {Kind: 3, Node: -1, Inc: 1}, {Kind: 4}, {Kind: 4, Job: 1, Prio: 100}, {Kind: 4, Job: 1, Prio: -1}, {Kind: 4, Job: 1, Res: api.Res{0, 0, unit + 1}}, {Kind: 1, Inc: 1, Res: api.Res{-1, 0, 0}},
		{Kind: 5}, {Kind: 5, Job: -1}, {Kind: 5, Job: maxId + 1}, {Kind: 5, Job: api.MinInt}, {Kind: 5, Job: api.MaxInt}, {Kind: 6, Job: 1}, {Kind: 7, Inc: 1},
	}
	for _, v := range events() {
		for at := range fields(&v) {
			w := v
			if n := fields(&w)[at]; *n == 0 {
				*n = 1
			}
			if event.Check(w) != api.OK {
				l = append(l, w)
			}
		}
	}
	return l
}

// records are valid ones, of each kind, with few and with many bytes.
func records() []api.Record {
	var l []api.Record
	for i, v := range events() {
		for _, seq := range []int{1, 128, maxId} {
			l = append(l, api.Record{Seq: seq, Epoch: []int{1, 2, 16384, maxEpoch}[(i+seq)%4], Event: v})
		}
	}
	return append(l, api.Record{Seq: 1, Epoch: 2, Event: api.Event{Kind: 5, Job: 3}}, api.Record{Seq: maxId, Epoch: maxEpoch, Event: events()[10]})
}

// mixer gives numbers of all lengths and both signs, the same in each run.
func mixer(seed uint64) func() int {
	x := seed
	return func() int {
		x = x*6364136223846793005 + 1442695040888963407
		return int(x) >> (x >> 3 % 64)
	}
}

// mixed are many records, about half of which are valid.
func mixed(many int) []api.Record {
	next := mixer(1)
	var l []api.Record
	for i := range many {
		at := func(most int) int { return 1 + next()&api.MaxInt%most }
		v := event.Pure(api.Event{Kind: 1 + i%7, Node: at(16) - 1, Inc: at(maxId), Job: at(maxId), Prio: at(100) - 1, Res: api.Res{at(unit), at(unit), at(unit) - 1}})
		r := api.Record{Seq: at(maxId), Epoch: at(maxEpoch), Event: v}
		switch next() & 15 {
		case 0, 1:
			r.Seq = next()
		case 2, 3:
			r.Epoch = next()
		case 4:
			r.Event.Kind = next()
		case 5:
			r.Event.Job = next()
		case 6:
			r.Event.Res[2] = next()
		case 7:
			r.Seq, r.Epoch, r.Event.Kind = next(), next(), next()
		}
		l = append(l, r)
	}
	return l
}

// right are those of many records that are valid.
func right(many int) []api.Record {
	return slices.DeleteFunc(mixed(many), func(r api.Record) bool { return plainCheck(r) != api.OK })
}

// noNumbers are bytes that end as a number's do, but are no number's: too long, or too great.
func noNumbers() []string {
	return []string{
		"\x80\x00", "\x81\x00", "\xff\x00", "\x80\x80\x00", "\xff\xff\x00", "\x8f\x80\x80\x00",
		strings.Repeat("\x80", 8) + "\x00", strings.Repeat("\xff", 8) + "\x00", strings.Repeat("\x80", 9) + "\x00", strings.Repeat("\x80", 9) + "\x01", strings.Repeat("\x81", 9) + "\x01", strings.Repeat("\xff", 9) + "\x01", strings.Repeat("\xff", 9) + "\x7f",
		strings.Repeat("\x80", 10) + "\x01", strings.Repeat("\x80", 63) + "\x01", strings.Repeat("\xff", 90) + "\x7f",
	}
}

// rests are bytes that may stand behind a record.
func rests() []string {
	return []string{"", "\x00", "R", "x", "rest", "R\x00\x04\x01", "\x05\x03", frameOf(""), frameOf("\x01\x02\x05\x03"), frameOf("\x01\x02\x05\x03")[:10], frameOf("\x00\x01\x05\x03"), strings.Repeat("\xff", 300)}
}

// changed is a text with another byte at a place.
func changed(s string, at, b int) string { return s[:at] + text(b) + s[at+1:] }

// literal is a record, and its bytes as they were reckoned elsewhere.
type literal struct {
	r api.Record
	s string
}

func literals() []literal {
	most := api.Res{unit, unit, unit}
	return []literal{
		{api.Record{Seq: 1, Epoch: 2, Event: api.Event{Kind: 5, Job: 3}}, "\x52\x00\x04\x01\x02\x05\x03\x1b\x04\x11\x97"},
		{api.Record{Seq: 1, Epoch: 1, Event: api.Event{Kind: 1, Inc: 1}}, "\x52\x00\x08\x01\x01\x01\x00\x01\x00\x00\x00\x41\x6f\x75\x84"},
		{api.Record{Seq: 300, Epoch: 128, Event: api.Event{Kind: 2, Node: 3, Inc: 200, Res: api.Res{300, 5, 70000}}}, "\x52\x00\x0e\xac\x02\x80\x01\x02\x03\xc8\x01\xac\x02\x05\xf0\xa2\x04\x9b\x2b\xf0\xf7"},
		{api.Record{Seq: 127, Epoch: 16384, Event: api.Event{Kind: 3, Node: 15, Inc: 7}}, "\x52\x00\x07\x7f\x80\x80\x01\x03\x0f\x07\xfa\xbc\x49\x6f"},
		{api.Record{Seq: 7, Epoch: 1, Event: api.Event{Kind: 4, Job: 7, Prio: 3, Res: api.Res{1, 2, 0}}}, "\x52\x00\x08\x07\x01\x04\x07\x03\x01\x02\x00\xfc\x10\xf1\x9e"},
		{api.Record{Seq: 16383, Epoch: 127, Event: api.Event{Kind: 6, Job: 300, Node: 2, Inc: 3}}, "\x52\x00\x08\xff\x7f\x7f\x06\xac\x02\x02\x03\xbe\x0b\x67\x15"},
		{api.Record{Seq: 128, Epoch: 1 << 31, Event: api.Event{Kind: 7, Job: 1, Inc: 1}}, "\x52\x00\x0b\x80\x01\x80\x80\x80\x80\x08\x07\x01\x00\x01\x9e\x6f\xee\x4b"},
		{api.Record{Seq: maxId, Epoch: 1, Event: api.Event{Kind: 5, Job: maxId}}, "\x52\x00\x0c\xff\xff\xff\xff\x07\x01\x05\xff\xff\xff\xff\x07\x94\xed\xf7\xf3"},
		{api.Record{Seq: 1, Epoch: maxEpoch, Event: api.Event{Kind: 5, Job: 1}}, "\x52\x00\x08\x01\xff\xff\xff\xff\x0f\x05\x01\xf7\x47\x69\x9f"},
		{api.Record{Seq: maxId, Epoch: maxEpoch, Event: api.Event{Kind: 4, Job: maxId, Prio: 99, Res: most}}, "\x52\x00\x1a\xff\xff\xff\xff\x07\xff\xff\xff\xff\x0f\x04\xff\xff\xff\xff\x07\x63\x80\x80\x40\x80\x80\x40\x80\x80\x40\x8a\x96\x9e\x37"},
		{api.Record{Seq: maxId, Epoch: maxEpoch, Event: api.Event{Kind: 1, Node: 15, Inc: maxId, Res: most}}, "\x52\x00\x1a\xff\xff\xff\xff\x07\xff\xff\xff\xff\x0f\x01\x0f\xff\xff\xff\xff\x07\x80\x80\x40\x80\x80\x40\x80\x80\x40\x53\x18\x4b\x15"},
	}
}

// Rd1

func TestRd1CheckExamples(t *testing.T) {
	good, bad, none := api.Event{Kind: api.EvCancel, Job: 3}, api.Event{Kind: api.EvCancel}, api.Event{Kind: 8, Job: 3}
	for _, c := range []struct {
		seq, epoch int
		v          api.Event
		e          api.Errno
	}{
		{1, 1, good, api.OK}, {1, 2, good, api.OK}, {2, 1, good, api.OK}, {maxId, 1, good, api.OK}, {1, maxEpoch, good, api.OK}, {maxId, maxEpoch, good, api.OK}, {1, maxId + 1, good, api.OK}, {1, maxEpoch - 1, good, api.OK}, {maxId - 1, 1, good, api.OK},
		{0, 1, good, api.ErrArg}, {-1, 1, good, api.ErrArg}, {maxId + 1, 1, good, api.ErrArg}, {maxEpoch, 1, good, api.ErrArg}, {1<<32 + 1, 1, good, api.ErrArg}, {api.MaxInt, 1, good, api.ErrArg}, {api.MinInt, 1, good, api.ErrArg}, {api.MinInt + 1, 1, good, api.ErrArg},
		{1, 0, good, api.ErrArg}, {1, -1, good, api.ErrArg}, {1, maxEpoch + 1, good, api.ErrArg}, {1, maxEpoch + 2, good, api.ErrArg}, {1, 1<<40 + 1, good, api.ErrArg}, {1, api.MaxInt, good, api.ErrArg}, {1, api.MinInt, good, api.ErrArg}, {1, api.MinInt + 1, good, api.ErrArg},
		{0, 0, good, api.ErrArg}, {-1, maxEpoch + 1, good, api.ErrArg},
		{1, 1, bad, api.ErrArg}, {1, 1, none, api.ErrKind}, {maxId, maxEpoch, none, api.ErrKind}, {1, 1, api.Event{}, api.ErrKind}, {1, 1, api.Event{Kind: -5, Job: 3}, api.ErrKind}, {1, 1, api.Event{Kind: api.EvCancel, Job: 3, Node: 1}, api.ErrArg}, {1, 1, api.Event{Kind: 8, Job: -1}, api.ErrKind},
		{0, 1, none, api.ErrArg}, {1, 0, none, api.ErrArg}, {0, 0, none, api.ErrArg}, {maxId + 1, 1, none, api.ErrArg}, {1, maxEpoch + 1, none, api.ErrArg}, {0, 1, bad, api.ErrArg}, {1, 0, bad, api.ErrArg}, {0, 0, api.Event{}, api.ErrArg}, {0, 1, api.Event{}, api.ErrArg}, {1, 0, api.Event{}, api.ErrArg},
	} {
		r := api.Record{Seq: c.seq, Epoch: c.epoch, Event: c.v}
		checkIs(t, r, c.e)
		if c.e != api.OK {
			sealIs(t, r, "", c.e)
		}
	}
	checkIs(t, api.Record{}, api.ErrArg)
	sealIs(t, api.Record{}, "", api.ErrArg)
}

// Seq and Epoch at all the edges, with events of each sort: what is wrong of the numbers comes ahead of what is wrong of the event.
func TestRd1Numbers(t *testing.T) {
	sorts := map[api.Errno][]api.Event{api.OK: events()[4:5], api.ErrKind: noKinds()[:4], api.ErrArg: noEvents()[4:6]}
	good := 0
	for _, seq := range edges() {
		for _, epoch := range edges() {
			numbersGood := seq >= 1 && seq <= maxId && epoch >= 1 && epoch <= maxEpoch
			for e, l := range sorts {
				if !numbersGood {
					e = api.ErrArg
				}
				for _, v := range l {
					r := api.Record{Seq: seq, Epoch: epoch, Event: v}
					checkIs(t, r, e)
					if plain(t, r) == api.OK {
						good++
					}
				}
			}
		}
	}
	if good < 1000 {
		t.Errorf("only %d records are valid", good)
	}
}

// Each bit of Seq and of Epoch alone, and all bits up to it.
func TestRd1Bits(t *testing.T) {
	for bit := range 64 {
		for _, n := range []int{1 << bit, 1<<bit - 1, -1 << bit, 1<<bit | 1} {
			for _, other := range []int{1, 100, maxId} {
				plain(t, api.Record{Seq: n, Epoch: other, Event: events()[5]})
				plain(t, api.Record{Seq: other, Epoch: n, Event: events()[5]})
			}
		}
	}
}

// The error of an event is told as layer 18 tells it.
func TestRd1Events(t *testing.T) {
	for _, seq := range []int{1, 2, 300, maxId} {
		for _, epoch := range []int{1, 2, 70000, maxEpoch} {
			for e, l := range map[api.Errno][]api.Event{api.OK: events(), api.ErrKind: noKinds(), api.ErrArg: noEvents()} {
				for _, v := range l {
					r := api.Record{Seq: seq, Epoch: epoch, Event: v}
					checkIs(t, r, e)
					plain(t, r)
				}
			}
		}
	}
}

// Every number of an event at all the edges, of each kind.
func TestRd1EventNumbers(t *testing.T) {
	seen := map[api.Errno]int{}
	for _, v := range events()[14:] {
		for _, n := range edges() {
			for at := range fields(&v) {
				w := v
				*fields(&w)[at] = n
				seen[plain(t, api.Record{Seq: 5, Epoch: 6, Event: w})]++
			}
		}
	}
	if len(seen) != 3 || seen[api.OK] < 500 || seen[api.ErrArg] < 1000 || seen[api.ErrKind] < 1000 {
		t.Error(seen)
	}
}

// The example of the document, and others.
func TestRd1SealExamples(t *testing.T) {
	for _, c := range literals() {
		checkIs(t, c.r, api.OK)
		sealIs(t, c.r, c.s, api.OK)
		openIs(t, c.s, c.r, len(c.s), api.OK)
	}
	if s, _ := record.Seal(api.Record{Seq: 1, Epoch: 2, Event: api.Event{Kind: api.EvCancel, Job: 3}}); len(s) != 11 || s[3:7] != "\x01\x02\x05\x03" {
		t.Errorf("%x", s)
	}
}

// Every Seq and Epoch up to some.
func TestRd1SealNumbers(t *testing.T) {
	for _, v := range events()[14:] {
		tail, _ := event.Put(v)
		for n := 1; n <= 1000; n++ {
			sealIs(t, api.Record{Seq: n, Epoch: 7, Event: v}, frameOf(bytesOf(n)+"\x07"+tail), api.OK)
			sealIs(t, api.Record{Seq: 7, Epoch: n, Event: v}, frameOf("\x07"+bytesOf(n)+tail), api.OK)
		}
	}
}

func TestRd1Mixed(t *testing.T) {
	seen := map[api.Errno]int{}
	for _, r := range mixed(40000) {
		seen[plain(t, r)]++
	}
	if len(seen) != 3 || seen[api.OK] < 10000 || seen[api.ErrArg] < 10000 || seen[api.ErrKind] < 1000 {
		t.Error(seen)
	}
}

// Rd2

func TestRd2Examples(t *testing.T) {
	r := api.Record{Seq: 1, Epoch: 2, Event: api.Event{Kind: api.EvCancel, Job: 3}}
	openIs(t, frameOf("\x01\x02\x05\x03"), r, 11, api.OK)
	openIs(t, frameOf("\x01\x02\x05\x03")+"rest", r, 11, api.OK)
	openIs(t, frameOf("\xac\x02\xff\xff\xff\xff\x0f\x05\xac\x02"), api.Record{Seq: 300, Epoch: maxEpoch, Event: api.Event{Kind: 5, Job: 300}}, 17, api.OK)
	for _, c := range []struct {
		body string
		e    api.Errno
	}{
		{"", api.ErrShort}, {"\x80", api.ErrShort}, {"\xff\xff\xff", api.ErrShort}, {"\x80\x00", api.ErrForm}, {"\x81\x80\x00\x02\x05\x03", api.ErrForm},
		{"\x01", api.ErrShort}, {"\x01\x80", api.ErrShort}, {"\x01\x80\x00", api.ErrForm}, {"\x01\x82\x00\x05\x03", api.ErrForm},
		{"\x01\x02", api.ErrShort}, {"\x01\x02\x00", api.ErrKind}, {"\x01\x02\x08", api.ErrKind}, {"\x01\x02\x08\x03", api.ErrKind}, {"\x01\x02\xff", api.ErrKind}, {"\x01\x02\x85\x00\x03", api.ErrKind},
		{"\x01\x02\x05", api.ErrShort}, {"\x01\x02\x05\x83", api.ErrShort}, {"\x01\x02\x05\x83\x00", api.ErrForm}, {"\x01\x02\x05\x03\x00", api.ErrForm}, {"\x01\x02\x05\x03\x05\x03", api.ErrForm}, {"\x01\x02\x05\x03\x80", api.ErrForm}, {"\x01\x02\x05\x00", api.ErrArg}, {"\x01\x02\x05\x80\x80\x80\x80\x08", api.ErrArg},
		{"\x00\x02\x05\x03", api.ErrArg}, {"\x80\x80\x80\x80\x08\x02\x05\x03", api.ErrArg}, {"\x01\x00\x05\x03", api.ErrArg}, {"\x01\x80\x80\x80\x80\x10\x05\x03", api.ErrArg}, {"\x00\x00\x05\x00", api.ErrArg},
		// Whether Seq and Epoch are valid comes last, behind all errors of the bytes.
		{"\x00", api.ErrShort}, {"\x00\x80\x00", api.ErrForm}, {"\x00\x02", api.ErrShort}, {"\x00\x02\x08", api.ErrKind}, {"\x01\x00\x08", api.ErrKind}, {"\x00\x00", api.ErrShort}, {"\x00\x00\x00", api.ErrKind}, {"\x00\x02\x05\x03\x00", api.ErrForm}, {"\x01\x00\x05\x03\x00", api.ErrForm}, {"\x00\x00\x05", api.ErrShort},
		// Of several parts that are wrong, the first one counts.
		{"\x80\x00\x80", api.ErrForm}, {"\x80\x00\x08", api.ErrForm}, {"\x01\x80\x00\x08", api.ErrForm}, {"\x01\x80\x00", api.ErrForm}, {"\x80\x00", api.ErrForm}, {"\x80\x80", api.ErrShort},
	} {
		wrongBody(t, c.body, c.e)
	}
	for _, s := range []string{"", "R", "R\x00", "R\x00\x04", "R\x00\x04\x01\x02\x05\x03", frameOf("\x01\x02\x05\x03")[:10], "R\x00\xc8"} {
		wrong(t, s, api.ErrShort)
	}
	for _, s := range []string{"x", "\x00", "Q", "S", "r", "\xd2", "\x01\x02\x05\x03", "x" + frameOf("\x01\x02\x05\x03"), "\x00" + frameOf("\x01\x02\x05\x03")[1:]} {
		wrong(t, s, api.ErrForm)
	}
	for _, s := range []string{"R\x00\xc9", "R\x01\x00", "R\x04\x00\x01\x02\x05\x03\x1b\x04\x11\x97", frameOf(strings.Repeat("\x01", 201)), "R\xff\xff" + strings.Repeat("\x00", 300)} {
		wrong(t, s, api.ErrMany)
	}
	for _, s := range []string{"R\x00\x04\x01\x02\x05\x03\x00\x00\x00\x00", "R\x00\x04\x01\x02\x05\x03\x97\x11\x04\x1b", "R\x00\x04\x01\x02\x05\x04\x1b\x04\x11\x97", "R\x00\x00\x00\x00\x00\x00"} {
		wrong(t, s, api.ErrSum)
	}
}

// Whatever the body is, the errors of the frame come first.
func TestRd2FrameFirst(t *testing.T) {
	bodies := []string{"", "\x80", "\x80\x00", "\x00", "\x01", "\x01\x80\x00", "\x01\x02", "\x01\x02\x08", "\x01\x02\x05", "\x01\x02\x05\x03", "\x01\x02\x05\x03\x00", "\x01\x02\x05\x00", "\x00\x02\x05\x03", "\x01\x00\x05\x03", strings.Repeat("\x00", 200), strings.Repeat("\xff", 200)}
	for _, r := range records() {
		bodies = append(bodies, strings.Join(parts(r), ""))
	}
	for _, body := range bodies {
		s := frameOf(body)
		for end := range len(s) {
			wrong(t, s[:end], api.ErrShort)
		}
		for _, rest := range rests() {
			for at := len(s) - 4; at < len(s); at++ {
				wrong(t, changed(s, at, int(s[at])^1)+rest, api.ErrSum)
			}
			wrong(t, "x"+s+rest, api.ErrForm)
			wrong(t, "\x00"+s[1:]+rest, api.ErrForm)
			wrong(t, "R\x01"+s[2:]+rest, api.ErrMany)
			wrong(t, "R\x00\xc9"+s[3:]+rest, api.ErrMany)
		}
		plainly(t, s)
	}
	for _, size := range []int{201, 202, 255, 256, 260, 1000, 1<<16 - 1} {
		wrong(t, frameOf("\x01\x02\x05\x03"+strings.Repeat("\x00", size-4)), api.ErrMany)
		wrong(t, frameOf(strings.Repeat("\x00", size)), api.ErrMany)
	}
}

// The length of a frame as any other, with bytes enough behind it, and without.
func TestRd2Length(t *testing.T) {
	s := frameOf("\x01\x02\x05\x03")
	for n := range 1 << 16 {
		head := "R" + text(n>>8) + text(n)
		plainly(t, head+s[3:])
		plainly(t, head+s[3:]+strings.Repeat("\x00", 200))
	}
}

// A body that is cut off within Seq, within Epoch or within the event, in a whole frame.
func TestRd2Cut(t *testing.T) {
	for _, r := range append(records(), right(1000)...) {
		body := strings.Join(parts(r), "")
		openIs(t, frameOf(body), r, len(body)+7, api.OK)
		for end := range len(body) {
			wrongBody(t, body[:end], api.ErrShort)
		}
	}
}

// Bytes that follow the event within the body.
func TestRd2LeftOver(t *testing.T) {
	for _, r := range records() {
		body := strings.Join(parts(r), "")
		for b := range 256 {
			wrongBody(t, body+text(b), api.ErrForm)
		}
		for _, tail := range []string{"\x80\x80", "\x00\x00", body, body[1:], parts(r)[2], frameOf(body), strings.Repeat("\x00", maxBody-len(body))} {
			wrongBody(t, body+tail, api.ErrForm)
		}
		wrongBody(t, body+strings.Repeat("\x00", maxBody+1-len(body)), api.ErrMany)
	}
}

// What follows the frame does not count, nor does it belong to the bytes of the frame.
func TestRd2Rest(t *testing.T) {
	for _, r := range append(records(), right(1000)...) {
		s := frameOf(strings.Join(parts(r), ""))
		for _, rest := range append(rests(), s, s+s, s[1:], s[:len(s)-1]) {
			openIs(t, s+rest, r, len(s), api.OK)
		}
		for b := range 256 {
			openIs(t, s+text(b), r, len(s), api.OK)
		}
	}
}

// A Seq or an Epoch that is no number; whatever is behind it.
func TestRd2NoNumber(t *testing.T) {
	for _, r := range records() {
		l := parts(r)
		for _, no := range noNumbers() {
			for at := range 2 {
				wrongBody(t, instead(l, at, no), api.ErrForm)
				wrongBody(t, instead(l[:at+1], at, no), api.ErrForm)
				wrongBody(t, instead(l[:at+1], at, no)+"\x80", api.ErrForm)
				wrongBody(t, instead(l[:at+1], at, no)+"\x08", api.ErrForm)
				wrongBody(t, instead(l[:at+1], at, no[:len(no)-1]), api.ErrShort)
			}
			// An Epoch that is none, or is cut off, behind a Seq that is a number but not valid, and behind one that is none.
			for _, seq := range []string{"\x00", bytesOf(maxId + 1), bytesOf(api.MaxInt)} {
				wrongBody(t, seq+no+l[2], api.ErrForm)
				wrongBody(t, seq+no[:len(no)-1], api.ErrShort)
				wrongBody(t, seq+no, api.ErrForm)
			}
			wrongBody(t, no+"\x80", api.ErrForm)
			wrongBody(t, no, api.ErrForm)
			wrongBody(t, no+no+l[2], api.ErrForm)
		}
	}
}

// Seq and Epoch as all the edges that have bytes: within their limits they are read, beyond them the record is not valid.
func TestRd2Limits(t *testing.T) {
	for _, r := range records() {
		l := parts(r)
		for _, n := range positive() {
			for at, most := range []int{maxId, maxEpoch} {
				body := instead(l, at, bytesOf(n))
				want := r
				*[]*int{&want.Seq, &want.Epoch}[at] = n
				if n >= 1 && n <= most {
					openIs(t, frameOf(body), want, len(body)+7, api.OK)
				} else {
					wrongBody(t, body, api.ErrArg)
				}
				wrongBody(t, body+"\x01", api.ErrForm)
				wrongBody(t, body[:len(body)-1], api.ErrShort)
			}
		}
	}
}

// All pairs of edges that have bytes, ahead of events that are right, not valid, of no kind, cut off, or too long.
func TestRd2Order(t *testing.T) {
	for _, seq := range positive() {
		for _, epoch := range positive() {
			ahead := bytesOf(seq) + bytesOf(epoch)
			wrong(t, frameOf(ahead), api.ErrShort)
			wrong(t, frameOf(ahead+"\x08\x03"), api.ErrKind)
			wrong(t, frameOf(ahead+"\x05\x80\x00"), api.ErrForm)
			wrong(t, frameOf(ahead+"\x05\x03\x00"), api.ErrForm)
			wrong(t, frameOf(ahead+"\x05\x80"), api.ErrShort)
			wrong(t, frameOf(ahead+"\x05\x00"), api.ErrArg)
			plainly(t, frameOf(ahead+"\x05\x03"))
		}
	}
}

// The error of the event's bytes is told as layer 18 tells it.
func TestRd2Events(t *testing.T) {
	tails := []string{
		"", "\x00", "\x08", "\xff", "\x05", "\x05\x80", "\x05\x80\x00", "\x05\x00", "\x05\x03\x00", "\x05\x80\x80\x80\x80\x08", "\x03\x10\x01", "\x03\x0f\x00", "\x03\x10", "\x03\x10\x80\x00", "\x04\x01\x64\x00\x00\x00", "\x04\x01\x00\x81\x80\x40\x00\x00", "\x06\x01\x02", "\x06\x01\x02\x03", "\x07\x01\x10\x03", "\x01\x00\x01\x00\x00\x00", "\x01\x00\x01\x00\x00", "\x01\x00\x01\x00\x00\x00\x00",
	}
	for b := range 256 {
		tails = append(tails, text(b), text(b)+"\x01", text(b)+"\x01\x01\x01", text(b)+"\x01\x01\x01\x01\x01", "\x05"+text(b))
	}
	for _, tail := range tails {
		_, e := event.Get(tail)
		for _, ahead := range []string{"\x01\x02", "\xac\x02\x01", bytesOf(maxId) + bytesOf(maxEpoch)} {
			if got := plainly(t, frameOf(ahead+tail)); got != e {
				t.Fatalf("%x: %v; want %v", ahead+tail, got, e)
			}
		}
		for _, ahead := range []string{"\x00\x01", "\x01\x00", bytesOf(maxId+1) + "\x01", "\x01" + bytesOf(maxEpoch+1)} {
			want := e
			if e == api.OK {
				want = api.ErrArg
			}
			wrongBody(t, ahead+tail, want)
		}
	}
}

// Each body with each byte as any other, without it, with it twice, and with others ahead of it, in a whole frame.
func TestRd2NearBodies(t *testing.T) {
	seen := map[api.Errno]int{}
	for _, r := range records() {
		body := strings.Join(parts(r), "")
		for at := range len(body) {
			for b := range 256 {
				seen[plainly(t, frameOf(changed(body, at, b)))]++
			}
			for _, in := range []string{"\x00", "\x01", "\x7f", "\x80", "\xff"} {
				seen[plainly(t, frameOf(body[:at]+in+body[at:]))]++
			}
			plainly(t, frameOf(body[:at]+body[at+1:]))
			plainly(t, frameOf(body[:at+1]+body[at:]))
			plainly(t, frameOf(body[at:]))
		}
	}
	allSorts(t, seen, 1000)
}

// All bodies of up to six bytes out of some.
func TestRd2ShortBodies(t *testing.T) {
	seen := map[api.Errno]int{}
	l := []string{""}
	for at := 0; at < len(l); at++ {
		seen[plainly(t, frameOf(l[at]))]++
		if len(l[at]) == 6 {
			continue
		}
		for _, next := range []string{"\x00", "\x01", "\x03", "\x05", "\x06", "\x08", "\x80", "\xff"} {
			l = append(l, l[at]+next)
		}
	}
	allSorts(t, seen, 100)
}

// Bodies of numbers, of bytes of any kind, and of both, of all lengths.
func TestRd2Mixed(t *testing.T) {
	next := mixer(2)
	for i := range 60000 {
		var b []byte
		for range i % 12 {
			switch (i + len(b)) % 3 {
			case 0:
				b = append(b, bytesOf(next()&api.MaxInt)...)
			case 1:
				b = append(b, byte(next()))
			case 2:
				b = append(b, byte(next()&7))
			}
		}
		s := frameOf(string(b))
		plainly(t, s)
		plainly(t, string(b))
		plainly(t, "R\x00"+string(b))
		plainly(t, s[:len(s)*(i%100)/100])
	}
	for size := range 300 {
		for _, b := range []string{"\x00", "\x01", "\x05", "\x80", "\xff", "R"} {
			plainly(t, frameOf(strings.Repeat(b, size)))
			plainly(t, frameOf("\x01\x02\x05"+strings.Repeat(b, size)))
			plainly(t, strings.Repeat(b, size))
		}
	}
}

// No call depends on those before it, and calls at once do not disturb each other.
func TestRd2CallsApart(t *testing.T) {
	l := append(records(), api.Record{}, api.Record{Seq: 1, Epoch: 1}, api.Record{Seq: 1, Epoch: 1, Event: api.Event{Kind: 5}}, api.Record{Seq: 1, Event: api.Event{Kind: 5, Job: 1}})
	for _, r := range l {
		for _, other := range l {
			plain(t, r)
			plain(t, other)
			wrongBody(t, "\x01\x02\x08", api.ErrKind)
		}
	}
	faults := make([]int, 8)
	var all sync.WaitGroup
	for n := range faults {
		all.Go(func() {
			for i := range 4000 {
				r := l[(i*7+n*31)%len(l)]
				want, e := plainSeal(r)
				s, got := record.Seal(r)
				back, size, again := record.Open(s)
				if s != want || got != e || record.Check(r) != e || size != len(s) || e == api.OK && (back != r || again != api.OK) || e != api.OK && (back != api.Record{} || again != api.ErrShort) {
					faults[n]++
				}
			}
		})
	}
	all.Wait()
	if slices.Max(faults) > 0 {
		t.Error(faults)
	}
}

// Rd3

// Records come back from the bytes that Seal makes, whatever follows them.
func TestRd3ComeBack(t *testing.T) {
	back := 0
	for _, r := range append(records(), mixed(20000)...) {
		s, e := record.Seal(r)
		if e != api.OK {
			continue
		}
		back++
		for _, rest := range rests() {
			openIs(t, s+rest, r, len(s), api.OK)
		}
	}
	if back < 10000 {
		t.Errorf("only %d records", back)
	}
}

// Records one behind the other come back, each at the place to which those ahead of it lead.
func TestRd3OneBehindTheOther(t *testing.T) {
	l := append(records(), right(1000)...)
	all := ""
	for _, r := range l {
		s, e := record.Seal(r)
		if e != api.OK {
			t.Fatalf("Seal(%+v): %v", r, e)
		}
		all += s
	}
	at := 0
	for _, want := range l {
		r, size, e := record.Open(all[at:])
		if r != want || e != api.OK {
			t.Fatalf("at %d: %+v, %v; want %+v", at, r, e, want)
		}
		at += size
	}
	if at != len(all) {
		t.Fatalf("%d of %d bytes", at, len(all))
	}
	wrong(t, all[at:], api.ErrShort)
}

// Bytes that begin with a record begin with the bytes of that record.
func TestRd3BytesComeBack(t *testing.T) {
	back := 0
	for _, r := range records() {
		body := strings.Join(parts(r), "")
		for at := range len(body) {
			for b := range 256 {
				s := frameOf(changed(body, at, b))
				got, size, e := record.Open(s + "rest")
				if e != api.OK {
					continue
				}
				back++
				checkIs(t, got, api.OK)
				sealIs(t, got, s[:size], api.OK)
			}
		}
	}
	if back < 1000 {
		t.Errorf("only %d bodies", back)
	}
}

// Records that differ have different bytes, and no record's are the beginning of another's.
func TestRd3BytesApart(t *testing.T) {
	was := map[string]api.Record{}
	var all []string
	for _, r := range append(records(), right(20000)...) {
		s, e := record.Seal(r)
		if other, ok := was[s]; e != api.OK || ok && other != r {
			t.Fatalf("%x, %v: of %+v and of %+v", s, e, r, other)
		}
		was[s] = r
		all = append(all, s)
	}
	slices.Sort(all)
	all = slices.Compact(all)
	for i := 1; i < len(all); i++ {
		if strings.HasPrefix(all[i], all[i-1]) {
			t.Fatalf("%x is the beginning of %x", all[i-1], all[i])
		}
	}
}

// A record that is cut off anywhere is rejected.
func TestRd3CutOff(t *testing.T) {
	for _, r := range append(records(), right(5000)...) {
		s, e := record.Seal(r)
		if e != api.OK {
			t.Fatalf("Seal(%+v): %v", r, e)
		}
		for end := range len(s) {
			wrong(t, s[:end], api.ErrShort)
		}
		openIs(t, s, r, len(s), api.OK)
	}
}

// A record with any byte outside the length as any other is rejected, whatever follows; the first byte is none of a frame then, and any other one has another sum.
func TestRd3Damaged(t *testing.T) {
	for _, r := range append(records(), right(30)...) {
		s, e := record.Seal(r)
		if e != api.OK {
			t.Fatalf("Seal(%+v): %v", r, e)
		}
		for at := range len(s) {
			want := api.ErrSum
			if at == 0 {
				want = api.ErrForm
			}
			if at == 1 || at == 2 {
				continue
			}
			for b := range 256 {
				if b == int(s[at]) {
					openIs(t, changed(s, at, b), r, len(s), api.OK)
					continue
				}
				wrong(t, changed(s, at, b), want)
				wrong(t, changed(s, at, b)+s, want)
			}
		}
	}
}

// A damaged record that is cut off as well is rejected, too; where the first byte is whole, as one that is cut off.
func TestRd3DamagedAndCutOff(t *testing.T) {
	for _, r := range records() {
		s, _ := record.Seal(r)
		for at := range len(s) {
			if at == 1 || at == 2 {
				continue
			}
			bad := changed(s, at, int(s[at])^0x21)
			for end := range len(s) {
				if at == 0 && end > 0 {
					wrong(t, bad[:end], api.ErrForm)
				} else {
					wrong(t, bad[:end], api.ErrShort)
				}
			}
		}
	}
}
