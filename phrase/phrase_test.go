package phrase_test

import (
	"fmt"
	"slices"
	"strings"
	"sync"
	"testing"

	"reeve/api"
	"reeve/phrase"
)

// The limits as the document writes them.
const (
	maxNode = 15
	maxId   = 1<<31 - 1
	maxPrio = 99
	unit    = 1 << 20
)

// names are those of all numbers of an event besides its kind.
func names() []string { return []string{"node", "inc", "job", "prio", "cores", "memory", "disk"} }

// plainWord is a kind's word; empty if there is no such kind.
func plainWord(kind int) string {
	switch kind {
	case 1:
		return "join"
	case 2:
		return "resize"
	case 3:
		return "gone"
	case 4:
		return "submit"
	case 5:
		return "cancel"
	case 6:
		return "run"
	case 7:
		return "done"
	}
	return ""
}

// has are the names of the numbers of a kind, in the order of the document's table; nil if there is no such kind.
func has(kind int) []string {
	switch kind {
	case 1, 2:
		return []string{"node", "inc", "cores", "memory", "disk"}
	case 3:
		return []string{"node", "inc"}
	case 4:
		return []string{"job", "prio", "cores", "memory", "disk"}
	case 5:
		return []string{"job"}
	case 6, 7:
		return []string{"job", "node", "inc"}
	}
	return nil
}

// lacks are the names of the numbers that a kind does not have.
func lacks(kind int) []string {
	return slices.DeleteFunc(names(), func(name string) bool { return slices.Contains(has(kind), name) })
}

// limits are from where to where a number is valid.
func limits(name string) (int, int) {
	switch name {
	case "node":
		return 0, maxNode
	case "inc", "job":
		return 1, maxId
	case "prio":
		return 0, maxPrio
	}
	return 0, unit
}

func get(v api.Event, name string) int {
	switch name {
	case "node":
		return v.Node
	case "inc":
		return v.Inc
	case "job":
		return v.Job
	case "prio":
		return v.Prio
	case "cores":
		return v.Res[0]
	case "memory":
		return v.Res[1]
	}
	return v.Res[2]
}

// with is an event with another number of that name.
func with(v api.Event, name string, n int) api.Event {
	switch name {
	case "node":
		v.Node = n
	case "inc":
		v.Inc = n
	case "job":
		v.Job = n
	case "prio":
		v.Prio = n
	case "cores":
		v.Res[0] = n
	case "memory":
		v.Res[1] = n
	case "disk":
		v.Res[2] = n
	}
	return v
}

func plainCheck(v api.Event) api.Errno {
	if has(v.Kind) == nil {
		return api.ErrKind
	}
	for _, name := range has(v.Kind) {
		least, most := limits(name)
		if n := get(v, name); n < least || n > most {
			return api.ErrArg
		}
	}
	for _, name := range lacks(v.Kind) {
		if get(v, name) != 0 {
			return api.ErrArg
		}
	}
	return api.OK
}

// parts are the words of the line that an event of a kind that there is has, were it valid.
func parts(v api.Event) []string {
	l := []string{plainWord(v.Kind)}
	for _, name := range has(v.Kind) {
		l = append(l, fmt.Sprintf("%s=%d", name, get(v, name)))
	}
	return l
}

// spaced are words as a line.
func spaced(l ...string) string { return strings.Join(l, " ") }

// instead is the line of the words with another one at a place.
func instead(l []string, at int, word string) string {
	l = slices.Clone(l)
	l[at] = word
	return spaced(l...)
}

func plainLine(v api.Event) (string, api.Errno) {
	if e := plainCheck(v); e != api.OK {
		return "", e
	}
	return spaced(parts(v)...), api.OK
}

// plainWords is what the document says of a line's words: they stand between blanks, ahead of the first #.
func plainWords(line string) []string {
	ahead := strings.SplitN(line, "#", 2)[0]
	l := strings.Split(strings.ReplaceAll(ahead, "\t", " "), " ")
	return slices.DeleteFunc(l, func(word string) bool { return word == "" })
}

// plainParse takes from the words, for each kind, what may be numbers, and holds the line of that event against them.
func plainParse(line string) (api.Event, api.Errno) {
	l := plainWords(line)
	for kind := 1; kind <= 7; kind++ {
		if !slices.Contains(l, plainWord(kind)) {
			continue
		}
		v := api.Event{Kind: kind}
		for i, name := range has(kind) {
			n := 0
			if i+1 < len(l) {
				fmt.Sscanf(l[i+1][strings.LastIndex(l[i+1], "=")+1:], "%d", &n)
			}
			v = with(v, name, n)
		}
		if s, e := plainLine(v); e == api.OK && s == spaced(l...) {
			return v, api.OK
		}
	}
	return api.Event{}, api.ErrForm
}

func plainText(l []api.Event) (string, api.Errno) {
	s := ""
	for _, v := range l {
		line, e := plainLine(v)
		if e != api.OK {
			return "", e
		}
		s += line + "\n"
	}
	return s, api.OK
}

func plainAll(text string) ([]api.Event, int, api.Errno) {
	var l []api.Event
	for i, line := range strings.Split(text, "\n") {
		if len(plainWords(line)) == 0 {
			continue
		}
		v, e := plainParse(line)
		if e != api.OK {
			return nil, i, e
		}
		l = append(l, v)
	}
	return l, 0, api.OK
}

func wordIs(t *testing.T, kind int, want string, ok bool) {
	t.Helper()
	if s, got := phrase.Word(kind); s != want || got != ok {
		t.Fatalf("Word(%d) = %q, %v; want %q, %v", kind, s, got, want, ok)
	}
}

func lineIs(t *testing.T, v api.Event, want string, e api.Errno) {
	t.Helper()
	if s, got := phrase.Line(v); s != want || got != e {
		t.Fatalf("Line(%+v) = %q, %v; want %q, %v", v, s, got, want, e)
	}
}

func parseIs(t *testing.T, line string, want api.Event, e api.Errno) {
	t.Helper()
	if v, got := phrase.Parse(line); v != want || got != e {
		t.Fatalf("Parse(%.200q) = %+v, %v; want %+v, %v", line, v, got, want, e)
	}
}

// none tells that a line is no event's.
func none(t *testing.T, line string) {
	t.Helper()
	parseIs(t, line, api.Event{}, api.ErrForm)
}

func textIs(t *testing.T, l []api.Event, want string, e api.Errno) {
	t.Helper()
	before := slices.Clone(l)
	if s, got := phrase.Text(l...); s != want || got != e {
		t.Fatalf("Text(%+v) = %.200q, %v; want %.200q, %v", l, s, got, want, e)
	}
	if !slices.Equal(l, before) {
		t.Fatalf("Text(%+v) changed the list to %+v", before, l)
	}
}

func allIs(t *testing.T, text string, want []api.Event, at int, e api.Errno) {
	t.Helper()
	if l, n, got := phrase.ParseAll(text); !slices.Equal(l, want) || n != at || got != e {
		t.Fatalf("ParseAll(%.200q) = %+v, %d, %v; want %+v, %d, %v", text, l, n, got, want, at, e)
	}
}

// plain holds Line of an event against the model.
func plain(t *testing.T, v api.Event) api.Errno {
	t.Helper()
	s, e := plainLine(v)
	lineIs(t, v, s, e)
	return e
}

// plainly holds Parse of a line against the model.
func plainly(t *testing.T, line string) api.Errno {
	t.Helper()
	v, e := plainParse(line)
	parseIs(t, line, v, e)
	return e
}

// wholly holds ParseAll of a text against the model.
func wholly(t *testing.T, text string) api.Errno {
	t.Helper()
	l, at, e := plainAll(text)
	allIs(t, text, l, at, e)
	return e
}

// wrongKinds are those that no event has; some would be one if they were made shorter.
func wrongKinds() []int {
	l := []int{0, 8, 9, 10, 64, 100, 127, 128, 255, api.MinInt, api.MinInt + 1, api.MaxInt, api.MaxInt - 1, -8}
	for kind := 1; kind <= 7; kind++ {
		l = append(l, -kind, ^kind, kind+8, kind+16, kind+128)
		for _, bit := range []int{8, 16, 31, 32, 53, 62, 63} {
			l = append(l, kind+1<<bit, kind-1<<bit)
		}
	}
	slices.Sort(l)
	return slices.Compact(l)
}

// edges are the numbers at which a limit or a text is likeliest to be wrong: about each limit of the document, about the powers of ten, what would be valid if it were made shorter, and the ends of int.
func edges() []int {
	l := []int{api.MinInt, api.MinInt + 1, api.MinInt + 3, api.MaxInt - 1, api.MaxInt}
	for _, n := range []int{0, 10, maxNode, maxPrio, 255, 1000, 10000, 1 << 16, 100000, unit, 2 * unit, 1e7, 1e9, maxId, 2 * maxId, 1 << 32, 1e10, 1 << 40, 1e18, 1 << 62} {
		for by := -2; by <= 2; by++ {
			l = append(l, n+by, -n+by)
		}
	}
	slices.Sort(l)
	return slices.Compact(l)
}

// lows and highs are the valid events whose numbers are all as small, or all as great as may be.
func lows() []api.Event {
	return []api.Event{
		{Kind: 1, Inc: 1}, {Kind: 2, Inc: 1}, {Kind: 3, Inc: 1}, {Kind: 4, Job: 1}, {Kind: 5, Job: 1}, {Kind: 6, Job: 1, Inc: 1}, {Kind: 7, Job: 1, Inc: 1},
	}
}

func highs() []api.Event {
	r := api.Res{unit, unit, unit}
	return []api.Event{
		{Kind: 1, Node: 15, Inc: maxId, Res: r}, {Kind: 2, Node: 15, Inc: maxId, Res: r}, {Kind: 3, Node: 15, Inc: maxId}, {Kind: 4, Job: maxId, Prio: 99, Res: r}, {Kind: 5, Job: maxId}, {Kind: 6, Job: maxId, Node: 15, Inc: maxId}, {Kind: 7, Job: maxId, Node: 15, Inc: maxId},
	}
}

// middles are valid events of which each number is another.
func middles() []api.Event {
	r := api.Res{300, 5, 70000}
	return []api.Event{
		{Kind: 1, Node: 3, Inc: 200, Res: r}, {Kind: 2, Node: 4, Inc: 70001, Res: r}, {Kind: 3, Node: 5, Inc: 6}, {Kind: 4, Job: 128, Prio: 7, Res: r}, {Kind: 5, Job: 300}, {Kind: 6, Job: 16384, Node: 2, Inc: 3}, {Kind: 7, Job: 1 << 30, Node: 9, Inc: 8},
	}
}

// valid are some events that are, of each kind.
func valid() []api.Event { return slices.Concat(lows(), highs(), middles()) }

// full are events of all kinds, right and wrong, with every number set.
func full() []api.Event {
	var l []api.Event
	for _, kind := range append(wrongKinds(), 1, 2, 3, 4, 5, 6, 7) {
		l = append(l, api.Event{Kind: kind, Node: 2, Inc: 3, Job: 5, Prio: 7, Res: api.Res{11, 13, 17}}, api.Event{Kind: kind, Node: -2, Inc: api.MinInt, Job: api.MaxInt, Prio: -7, Res: api.Res{-11, unit + 1, api.MinInt}}, api.Event{Kind: kind, Node: 1, Inc: 1, Job: 1, Prio: 1, Res: api.Res{1, 1, 1}})
	}
	return l
}

// mixer gives numbers of all lengths and both signs, the same in each run.
func mixer(seed uint64) func() int {
	x := seed
	return func() int {
		x = x*6364136223846793005 + 1442695040888963407
		return int(x) >> (x >> 3 % 64)
	}
}

// mixed are many events, about half of which are valid: those have all numbers within their limits; the others of any size, and in every other of those only what the kind has.
func mixed(many int) []api.Event {
	next := mixer(1)
	var l []api.Event
	for i := range many {
		v := api.Event{Kind: i%9 - i/9%2}
		for _, name := range names() {
			if i%4 < 3 && !slices.Contains(has(v.Kind), name) {
				continue
			}
			least, most := limits(name)
			n := next()
			if i%4 < 2 {
				n = least + n&api.MaxInt%(most-least+1)
			}
			v = with(v, name, n)
		}
		l = append(l, v)
	}
	return l
}

// right are those of many events that are valid.
func right(many int) []api.Event {
	return slices.DeleteFunc(mixed(many), func(v api.Event) bool { return plainCheck(v) != api.OK })
}

// noNumbers are texts that are no number's; some of them are one's elsewhere.
func noNumbers() []string {
	return []string{
		"", "-", "--1", "-0", "00", "01", "-01", "0001", "+1", "+0", "1-", "1.0", "1.", ".1", "1e3", "1_000", "1,000", "0x1", "0b1", "0o7", "1a", "a1", "a", "one",
		"9223372036854775808", "-9223372036854775809", "18446744073709551616", "18446744073709551617", "-18446744073709551615", "99999999999999999999", strings.Repeat("9", 100), strings.Repeat("0", 100) + "1",
		"=", "=1", "1=", "1=1", "==1", "−1", "١", "１", "½", "1\n", "\n1", "1\r", "\r1", "1\x00", "\x001", "1\v", "\f1", "1\u00a0", "\ufeff1", "1\xff", "\xff",
	}
}

// spaces are signs that are blank elsewhere, but not here; pieces of characters too.
func spaces() []string {
	return []string{"\n", "\r", "\r\n", "\v", "\f", "\x00", "\x1c", "\x1f", "\x85", "\xa0", "\u0085", "\u00a0", "\u1680", "\u2003", "\u2028", "\u202f", "\u3000", "\ufeff", "\u200b", "\u0120", "\u0109", "\xff", ",", ";", "_", "/"}
}

// permuted hands out the elements in all their orders, the given one first.
func permuted(l []string, do func(l []string)) {
	l = slices.Clone(l)
	var from func(at int)
	from = func(at int) {
		if at == len(l) {
			do(slices.Clone(l))
			return
		}
		for i := at; i < len(l); i++ {
			l[at], l[i] = l[i], l[at]
			from(at + 1)
			l[at], l[i] = l[i], l[at]
		}
	}
	from(0)
}

// Ph1

func TestPh1Word(t *testing.T) {
	for i, word := range []string{"join", "resize", "gone", "submit", "cancel", "run", "done"} {
		wordIs(t, i+1, word, true)
	}
	wordIs(t, api.EvJoin, "join", true)
	wordIs(t, api.EvDone, "done", true)
	for _, kind := range wrongKinds() {
		wordIs(t, kind, "", false)
	}
	for kind := -70000; kind <= 70000; kind++ {
		wordIs(t, kind, plainWord(kind), kind >= 1 && kind <= 7)
	}
}

func TestPh1LineExamples(t *testing.T) {
	for _, c := range []struct {
		v    api.Event
		want string
		e    api.Errno
	}{
		{api.Event{Kind: api.EvSubmit, Job: 7, Prio: 3, Res: api.Res{1, 2, 0}}, "submit job=7 prio=3 cores=1 memory=2 disk=0", api.OK},
		{api.Event{Kind: api.EvJoin, Node: 15, Inc: 1, Res: api.Res{1, 2, 300}}, "join node=15 inc=1 cores=1 memory=2 disk=300", api.OK},
		{api.Event{Kind: api.EvResize, Inc: 7}, "resize node=0 inc=7 cores=0 memory=0 disk=0", api.OK},
		{api.Event{Kind: api.EvGone, Node: 3, Inc: 2}, "gone node=3 inc=2", api.OK},
		{api.Event{Kind: api.EvCancel, Job: maxId}, "cancel job=2147483647", api.OK},
		{api.Event{Kind: api.EvRun, Job: 1, Node: 2, Inc: 3}, "run job=1 node=2 inc=3", api.OK},
		{api.Event{Kind: api.EvDone, Job: 1, Inc: 1}, "done job=1 node=0 inc=1", api.OK},
		{api.Event{Kind: api.EvSubmit, Job: 1, Prio: 99, Res: api.Res{unit, unit, unit}}, "submit job=1 prio=99 cores=1048576 memory=1048576 disk=1048576", api.OK},
		{api.Event{}, "", api.ErrKind}, {api.Event{Kind: 8, Job: 1}, "", api.ErrKind}, {api.Event{Kind: -5, Job: 1}, "", api.ErrKind}, {api.Event{Kind: 9, Job: -1}, "", api.ErrKind},
		{api.Event{Kind: api.EvCancel}, "", api.ErrArg}, {api.Event{Kind: api.EvCancel, Job: -1}, "", api.ErrArg}, {api.Event{Kind: api.EvCancel, Job: maxId + 1}, "", api.ErrArg}, {api.Event{Kind: api.EvCancel, Job: 1, Node: 1}, "", api.ErrArg},
		{api.Event{Kind: api.EvGone, Node: 16, Inc: 1}, "", api.ErrArg}, {api.Event{Kind: api.EvGone, Node: -1, Inc: 1}, "", api.ErrArg}, {api.Event{Kind: api.EvGone}, "", api.ErrArg}, {api.Event{Kind: api.EvGone, Inc: 1, Job: 1}, "", api.ErrArg},
		{api.Event{Kind: api.EvSubmit, Job: 1, Prio: 100}, "", api.ErrArg}, {api.Event{Kind: api.EvSubmit, Job: 1, Prio: -1}, "", api.ErrArg}, {api.Event{Kind: api.EvSubmit, Job: 1, Res: api.Res{0, 0, unit + 1}}, "", api.ErrArg}, {api.Event{Kind: api.EvSubmit, Job: 1, Inc: 1}, "", api.ErrArg},
		{api.Event{Kind: api.EvJoin, Inc: 1, Res: api.Res{-1, 0, 0}}, "", api.ErrArg}, {api.Event{Kind: api.EvRun, Job: 1, Inc: 1, Res: api.Res{0, 1, 0}}, "", api.ErrArg},
	} {
		lineIs(t, c.v, c.want, c.e)
	}
}

// Whatever the fields are, a kind that there is not comes first.
func TestPh1LineKinds(t *testing.T) {
	for _, kind := range wrongKinds() {
		for _, v := range slices.Concat(valid(), full(), []api.Event{{}}) {
			v.Kind = kind
			lineIs(t, v, "", api.ErrKind)
		}
	}
}

// Each number of each kind at all the edges, and all small ones.
func TestPh1LineNumbers(t *testing.T) {
	for _, v := range valid() {
		l := parts(v)
		for at, name := range has(v.Kind) {
			least, most := limits(name)
			for n := least; n <= min(most, 400); n++ {
				lineIs(t, with(v, name, n), instead(l, at+1, fmt.Sprintf("%s=%d", name, n)), api.OK)
			}
			for _, n := range edges() {
				want, e := "", api.ErrArg
				if n >= least && n <= most {
					want, e = instead(l, at+1, fmt.Sprintf("%s=%d", name, n)), api.OK
				}
				lineIs(t, with(v, name, n), want, e)
			}
		}
	}
}

// An event is not valid with anything that its kind does not have, though what the kind has is valid.
func TestPh1LineOtherFields(t *testing.T) {
	for _, v := range valid() {
		for _, name := range lacks(v.Kind) {
			for _, n := range []int{api.MinInt, -1, 1, 2, 15, 1 << 32, api.MaxInt} {
				lineIs(t, with(v, name, n), "", api.ErrArg)
			}
		}
	}
}

func TestPh1LineMixed(t *testing.T) {
	seen := map[api.Errno]int{}
	for _, v := range slices.Concat(valid(), full(), mixed(40000)) {
		seen[plain(t, v)]++
	}
	if len(seen) != 3 || seen[api.OK] < 10000 || seen[api.ErrArg] < 10000 || seen[api.ErrKind] < 1000 {
		t.Error(seen)
	}
}

func TestPh1ParseExamples(t *testing.T) {
	submit := api.Event{Kind: api.EvSubmit, Job: 7, Prio: 3, Res: api.Res{1, 2, 0}}
	for _, c := range []struct {
		line string
		want api.Event
	}{
		{"submit job=7 prio=3 cores=1 memory=2 disk=0", submit},
		{"  submit\tjob=7   prio=3 \t cores=1 memory=2 disk=0 \t", submit},
		{"submit job=7 prio=3 cores=1 memory=2 disk=0 # job=8", submit},
		{"submit job=7 prio=3 cores=1 memory=2 disk=0#", submit},
		{"join node=15 inc=1 cores=1 memory=2 disk=300", api.Event{Kind: api.EvJoin, Node: 15, Inc: 1, Res: api.Res{1, 2, 300}}},
		{"resize node=0 inc=7 cores=0 memory=0 disk=0", api.Event{Kind: api.EvResize, Inc: 7}},
		{"gone node=3 inc=2", api.Event{Kind: api.EvGone, Node: 3, Inc: 2}},
		{"cancel job=8", api.Event{Kind: api.EvCancel, Job: 8}},
		{"run job=1 node=2 inc=3", api.Event{Kind: api.EvRun, Job: 1, Node: 2, Inc: 3}},
		{"done job=1 node=0 inc=1", api.Event{Kind: api.EvDone, Job: 1, Inc: 1}},
	} {
		parseIs(t, c.line, c.want, api.OK)
	}
	for _, line := range []string{
		"", " ", "\t \t", "#", "# cancel job=8", " # cancel job=8", "\n", "\r",
		"join", "resize", "gone", "submit", "cancel", "run", "done", "none", "none job=1", "0", "5", "5 job=8", "=", "job=8",
		"Cancel job=8", "CANCEL job=8", "cancel Job=8", "cancel JOB=8", "cancels job=8", "cance job=8", "canceljob=8", "cancel, job=8",
		"cancel 8", "cancel job", "cancel job=", "cancel =8", "cancel job 8", "cancel job= 8", "cancel job =8", "cancel job = 8", "cancel job:8", "cancel job==8", "cancel jobs=8", "cancel ob=8", "cancel id=8",
		"cancel job=0", "cancel job=-1", "cancel job=08", "cancel job=+8", "cancel job=8.0", "cancel job=2147483648", "cancel job=4294967304", "cancel job=18446744073709551624", "cancel job=eight", "cancel job=0x8",
		"cancel job=8 job=8", "cancel job=8 x", "cancel job=8 x=1", "cancel job=8 node=0", "cancel cancel job=8", "x cancel job=8", "job=8 cancel", "cancel job=8 cancel job=8", "cancel job=8\ncancel job=8", "cancel job=8\n", "\ncancel job=8", "cancel job=8\r", "cancel\vjob=8",
		"cancel # job=8", "cancel job=#8", "cancel job#=8", "#cancel job=8", "cancel\u00a0job=8", "\ufeffcancel job=8", "cancel job=8;",
		"run job=1 node=2", "run node=2 job=1 inc=3", "run job=1 inc=3 node=2", "run inc=3 node=2 job=1", "run job=1 node=16 inc=1", "run job=1 node=-1 inc=1", "run job=1 node=0 inc=0", "run node=2 inc=3", "run job=1 node=2 inc=3 inc=3",
		"submit job=1 prio=100 cores=0 memory=0 disk=0", "submit job=1 prio=-1 cores=0 memory=0 disk=0", "submit job=1 prio=0 cores=1048577 memory=0 disk=0", "submit job=1 prio=0 res=0,0,0", "submit job=1 prio=0 cores=0 memory=0", "submit job=1 prio=0 memory=0 cores=0 disk=0", "submit prio=0 job=1 cores=0 memory=0 disk=0", "submit job=1 cores=0 memory=0 disk=0",
		"gone inc=2 node=3", "gone node=3", "gone node=3 inc=2 cores=0 memory=0 disk=0", "join node=3 inc=2", "join inc=1 node=0 cores=0 memory=0 disk=0", "join node=0 inc=1 cores=0 memory=0 disk=-1",
	} {
		none(t, line)
	}
}

// What is valid has the line that is told, with any blanks between words, ahead of them and behind them, and with any remark.
func TestPh1ParseBlanks(t *testing.T) {
	for _, v := range append(valid(), right(2000)...) {
		l := parts(v)
		parseIs(t, spaced(l...), v, api.OK)
		for _, blanks := range []string{" ", "\t", "  ", "\t\t", " \t", "\t ", strings.Repeat(" \t", 50)} {
			line := strings.Join(l, blanks)
			for _, s := range []string{line, blanks + line, line + blanks, blanks + line + blanks, line + "#", line + blanks + "#", line + "# x=1", line + blanks + "#" + line, line + "##", line + "#\n", line + "#\x00", blanks + line + "#\xff" + blanks} {
				parseIs(t, s, v, api.OK)
			}
			for at := range l {
				parseIs(t, strings.Join(l[:at], " ")+blanks+strings.Join(l[at:], blanks), v, api.OK)
			}
		}
	}
}

// A remark hides what is behind it: no word of a line may be, and of the last one only digits.
func TestPh1ParseRemarks(t *testing.T) {
	for _, v := range valid() {
		line := spaced(parts(v)...)
		last := strings.LastIndex(line, "=") + 2
		for at := range len(line) {
			for _, s := range []string{line[:at] + "#" + line[at:], line[:at] + " #" + line[at:], line[:at] + "\t#\t" + line[at:]} {
				if at < last {
					none(t, s)
				} else {
					plainly(t, s)
				}
			}
		}
		parseIs(t, line+"#"+line, v, api.OK)
	}
	parseIs(t, "cancel job=1#2", api.Event{Kind: api.EvCancel, Job: 1}, api.OK)
}

// Other signs are no blanks, wherever they are.
func TestPh1ParseOtherBlanks(t *testing.T) {
	for _, v := range valid() {
		l := parts(v)
		line := spaced(l...)
		for _, sign := range spaces() {
			none(t, strings.Join(l, sign))
			for at := range len(line) + 1 {
				none(t, line[:at]+sign+line[at:])
			}
			for at := 1; at < len(l); at++ {
				none(t, spaced(l[:at]...)+sign+spaced(l[at:]...))
				none(t, spaced(l[:at]...)+" "+sign+" "+spaced(l[at:]...))
			}
			none(t, line+" "+sign)
			none(t, sign+" "+line)
			parseIs(t, line+" #"+sign, v, api.OK)
		}
	}
}

// The words of a line in all their orders: one of them is the line.
func TestPh1ParseOrders(t *testing.T) {
	for _, v := range valid() {
		many := 0
		permuted(parts(v), func(l []string) {
			if slices.Equal(l, parts(v)) {
				parseIs(t, spaced(l...), v, api.OK)
				many++
				return
			}
			none(t, spaced(l...))
		})
		if many != 1 {
			t.Fatalf("%d orders of %v are its line", many, parts(v))
		}
	}
}

// A word too few, a word too many, and a word twice, at each place.
func TestPh1ParseHowMany(t *testing.T) {
	for _, v := range valid() {
		l := parts(v)
		for at := range len(l) {
			none(t, spaced(l[:at]...))
			none(t, spaced(l[at+1:]...))
			none(t, spaced(slices.Delete(slices.Clone(l), at, at+1)...))
			for _, other := range l {
				none(t, spaced(slices.Insert(slices.Clone(l), at, other)...))
				if other != l[at] {
					none(t, instead(l, at, other))
				}
			}
		}
		for at := range len(l) + 1 {
			for _, other := range []string{"x", "=", "x=1", "0", "=0", "job=1", "node=0", "inc=1", "prio=0", "cores=0", "memory=0", "disk=0", "kind=1", "seq=1", "run"} {
				none(t, spaced(slices.Insert(slices.Clone(l), at, other)...))
			}
		}
		none(t, spaced(append(l, l...)...))
		none(t, spaced(append(l, l[1:]...)...))
		none(t, spaced(append(l, slices.Repeat([]string{"x=1"}, 300)...)...))
		for len(l) > 0 {
			l = l[:len(l)-1]
			none(t, spaced(l...))
		}
	}
}

// The words of each kind with the numbers of each other one: run and done, and join and resize have the same.
func TestPh1ParseOtherWords(t *testing.T) {
	for _, v := range valid() {
		l := parts(v)
		for kind := 1; kind <= 7; kind++ {
			w := v
			w.Kind = kind
			if slices.Equal(has(kind), has(v.Kind)) {
				parseIs(t, instead(l, 0, plainWord(kind)), w, api.OK)
			} else {
				none(t, instead(l, 0, plainWord(kind)))
			}
		}
		for _, word := range []string{"none", "joined", "Run", "RUN", "runs", "ru", "un", "0", "1", "7", "8", "kind=1", "=", "lead", "node", "job", "job=1", "do", "don", "stop", "finish", "tick", "rún"} {
			none(t, instead(l, 0, word))
			none(t, word)
		}
		for _, n := range []string{fmt.Sprint(v.Kind), "=" + l[0], l[0] + "=", l[0] + "=1", l[0][1:], l[0][:len(l[0])-1], l[0] + l[0], strings.ToUpper(l[0]), strings.ToUpper(l[0][:1]) + l[0][1:]} {
			none(t, instead(l, 0, n))
		}
	}
}

// Each name, at each place, with the number that is there: only the one that the kind has there.
func TestPh1ParseNames(t *testing.T) {
	others := append(names(), "", "id", "kind", "res", "core", "mem", "disks", "Job", "NODE", "no de", "priority", "incarnation", "epoch", "seq", "job=", "=node", "j")
	for _, v := range valid() {
		l := parts(v)
		for at, name := range has(v.Kind) {
			n := get(v, name)
			for _, other := range others {
				if other != name {
					none(t, instead(l, at+1, fmt.Sprintf("%s=%d", other, n)))
				}
			}
			for _, word := range []string{fmt.Sprint(n), name, fmt.Sprintf("%s%d", name, n), fmt.Sprintf("%s:%d", name, n), fmt.Sprintf("%s==%d", name, n), fmt.Sprintf("%s=%d=", name, n), fmt.Sprintf("%s =%d", name, n), fmt.Sprintf("%s= %d", name, n), fmt.Sprintf("%s=%d,", name, n), fmt.Sprintf("-%s=%d", name, n), fmt.Sprintf("%d=%s", n, name), fmt.Sprintf("%s=\"%d\"", name, n), fmt.Sprintf("%s=%d.", name, n), fmt.Sprintf("%s=%d/1", name, n), fmt.Sprintf("%s=0%d", name, n), fmt.Sprintf("%s=+%d", name, n), fmt.Sprintf("%s=%d%s", name, n, "\x00")} {
				none(t, instead(l, at+1, word))
			}
		}
	}
}

// A number that is none, at each place.
func TestPh1ParseNoNumber(t *testing.T) {
	for _, v := range valid() {
		l := parts(v)
		for at, name := range has(v.Kind) {
			for _, no := range noNumbers() {
				none(t, instead(l, at+1, name+"="+no))
				none(t, instead(l, at+1, no))
			}
		}
	}
}

// Each number at all the edges: within its limits it is read, beyond them no event has the line.
func TestPh1ParseLimits(t *testing.T) {
	for _, v := range valid() {
		l := parts(v)
		for at, name := range has(v.Kind) {
			least, most := limits(name)
			for _, n := range edges() {
				line := instead(l, at+1, fmt.Sprintf("%s=%d", name, n))
				if n >= least && n <= most {
					parseIs(t, line, with(v, name, n), api.OK)
				} else {
					none(t, line)
				}
				if n > 0 {
					none(t, instead(l, at+1, fmt.Sprintf("%s=0%d", name, n)))
				}
			}
		}
	}
}

// A line cut off after each byte, and without its first ones: only a number may be shorter.
func TestPh1ParseCut(t *testing.T) {
	for _, v := range append(valid(), right(500)...) {
		line := spaced(parts(v)...)
		for at := range len(line) {
			plainly(t, line[:at])
			none(t, line[at+1:])
		}
	}
}

// Each line with each byte as any other, without it, and with any other ahead of it.
func TestPh1ParseOneByte(t *testing.T) {
	right := 0
	for _, v := range slices.Concat(lows(), middles()) {
		line := spaced(parts(v)...)
		for at := range len(line) {
			plainly(t, line[:at]+line[at+1:])
			for b := range 256 {
				sign := string([]byte{byte(b)})
				if plainly(t, line[:at]+sign+line[at+1:]) == api.OK {
					right++
				}
				plainly(t, line[:at]+sign+line[at:])
			}
		}
	}
	if right < 200 {
		t.Errorf("only %d lines that are an event's", right)
	}
}

// Lines of words that an event's line may have, in any order and number.
func TestPh1ParseMixed(t *testing.T) {
	next := mixer(3)
	seen := map[api.Errno]int{}
	for i := range 60000 {
		v := api.Event{Kind: 1 + next()&7}
		l := []string{plainWord(v.Kind)}
		for _, name := range has(v.Kind) {
			least, most := limits(name)
			n := next()
			if next()&15 > 0 {
				n = least + n&api.MaxInt%(most-least+1)
			}
			l = append(l, fmt.Sprintf("%s=%d", name, n))
		}
		for next()&3 == 0 {
			a, b := next()&api.MaxInt%len(l), next()&api.MaxInt%len(l)
			switch i % 3 {
			case 0:
				l[a], l[b] = l[b], l[a]
			case 1:
				l[a] = l[b]
			case 2:
				l = slices.Insert(l, a, names()[i%7]+"=1")
			}
		}
		seen[plainly(t, strings.Join(l, " \t"[i%2:i%2+1]))]++
	}
	if len(seen) != 2 || seen[api.OK] < 5000 || seen[api.ErrForm] < 5000 {
		t.Error(seen)
	}
}

// Bytes of any kind, many of them such as lines have.
func TestPh1ParseBytes(t *testing.T) {
	pieces := []string{" ", " ", "\t", "#", "\n", "=", "1", "0", "-", "cancel", "job", "job=1", "cancel job=2", "run job=1", " node=3", " inc=1", "gone", "\x00", "\xff", "é"}
	next := mixer(4)
	right := 0
	for i := range 100000 {
		line := ""
		for range i % 8 {
			line += pieces[next()&api.MaxInt%len(pieces)]
		}
		if plainly(t, line) == api.OK {
			right++
		}
	}
	if right < 100 {
		t.Errorf("only %d lines that are an event's", right)
	}
}

// Ph2

func TestPh2TextExamples(t *testing.T) {
	join, cancel := api.Event{Kind: api.EvJoin, Node: 15, Inc: 1, Res: api.Res{1, 2, 300}}, api.Event{Kind: api.EvCancel, Job: 8}
	kind, arg := api.Event{Kind: 9, Job: 1}, api.Event{Kind: api.EvCancel}
	for _, c := range []struct {
		l    []api.Event
		want string
		e    api.Errno
	}{
		{nil, "", api.OK}, {[]api.Event{}, "", api.OK},
		{[]api.Event{cancel}, "cancel job=8\n", api.OK},
		{[]api.Event{join, cancel}, "join node=15 inc=1 cores=1 memory=2 disk=300\ncancel job=8\n", api.OK},
		{[]api.Event{cancel, join}, "cancel job=8\njoin node=15 inc=1 cores=1 memory=2 disk=300\n", api.OK},
		{[]api.Event{cancel, cancel, cancel}, "cancel job=8\ncancel job=8\ncancel job=8\n", api.OK},
		{[]api.Event{kind}, "", api.ErrKind}, {[]api.Event{arg}, "", api.ErrArg}, {[]api.Event{{}}, "", api.ErrKind},
		{[]api.Event{kind, arg}, "", api.ErrKind}, {[]api.Event{arg, kind}, "", api.ErrArg},
		{[]api.Event{cancel, arg, kind}, "", api.ErrArg}, {[]api.Event{cancel, kind, arg}, "", api.ErrKind},
		{[]api.Event{cancel, join, kind}, "", api.ErrKind}, {[]api.Event{cancel, join, arg}, "", api.ErrArg}, {[]api.Event{arg, cancel, join}, "", api.ErrArg}, {[]api.Event{kind, cancel, join}, "", api.ErrKind},
	} {
		textIs(t, c.l, c.want, c.e)
	}
}

// One that is wrong, at each place among others, and another one behind it.
func TestPh2TextFirstError(t *testing.T) {
	for at := range len(valid()) {
		for _, e := range []api.Errno{api.ErrKind, api.ErrArg} {
			wrong := map[api.Errno]api.Event{api.ErrKind: {Kind: 8}, api.ErrArg: {Kind: api.EvRun, Job: 1, Node: 16, Inc: 1}}
			l := valid()
			l[at] = wrong[e]
			textIs(t, l, "", e)
			for behind := at + 1; behind < len(l); behind++ {
				more := slices.Clone(l)
				more[behind] = wrong[api.ErrKind+api.ErrArg-e]
				textIs(t, more, "", e)
			}
		}
	}
}

// Lists of all lengths, each held against the model.
func TestPh2TextMany(t *testing.T) {
	l := right(5000)
	for from := 0; from < len(l); from += 37 {
		for _, many := range []int{0, 1, 2, 3, 9} {
			some := l[from:min(from+many, len(l))]
			want, e := plainText(some)
			textIs(t, some, want, e)
		}
	}
	want, e := plainText(l)
	if e != api.OK || strings.Count(want, "\n") != len(l) {
		t.Fatal("the model is wrong")
	}
	textIs(t, l, want, api.OK)
	textIs(t, append(l, api.Event{}), "", api.ErrKind)
	every := mixed(3000)
	for from := range len(every) - 3 {
		some := every[from : from+3]
		want, e := plainText(some)
		textIs(t, some, want, e)
	}
}

func TestPh2AllExamples(t *testing.T) {
	one, two := api.Event{Kind: api.EvCancel, Job: 1}, api.Event{Kind: api.EvGone, Node: 3, Inc: 2}
	for _, c := range []struct {
		text string
		want []api.Event
		at   int
		e    api.Errno
	}{
		{"", nil, 0, api.OK}, {"\n", nil, 0, api.OK}, {"\n\n\n", nil, 0, api.OK}, {" ", nil, 0, api.OK}, {" \t\n\t", nil, 0, api.OK}, {"#", nil, 0, api.OK}, {"# cancel job=1", nil, 0, api.OK}, {"# x\n  # y\n", nil, 0, api.OK},
		{"cancel job=1", []api.Event{one}, 0, api.OK}, {"cancel job=1\n", []api.Event{one}, 0, api.OK}, {"\ncancel job=1", []api.Event{one}, 0, api.OK}, {"cancel job=1\n\n", []api.Event{one}, 0, api.OK}, {"cancel job=1\n ", []api.Event{one}, 0, api.OK}, {"cancel job=1\n#", []api.Event{one}, 0, api.OK},
		{"cancel job=1\ngone node=3 inc=2", []api.Event{one, two}, 0, api.OK}, {"cancel job=1\ngone node=3 inc=2\n", []api.Event{one, two}, 0, api.OK}, {"gone node=3 inc=2\ncancel job=1\n", []api.Event{two, one}, 0, api.OK},
		{"\n# x\ncancel job=1 # y\n\t\n\n gone \t node=3 inc=2#\n\n", []api.Event{one, two}, 0, api.OK}, {"cancel job=1\ncancel job=1\n", []api.Event{one, one}, 0, api.OK},
		{"x", nil, 0, api.ErrForm}, {"x\n", nil, 0, api.ErrForm}, {"\nx", nil, 1, api.ErrForm}, {"\nx\n", nil, 1, api.ErrForm}, {"#\n \nx\n", nil, 2, api.ErrForm},
		{"cancel job=1\nx", nil, 1, api.ErrForm}, {"x\ncancel job=1", nil, 0, api.ErrForm}, {"cancel job=1\n\n#\nx\ncancel job=1\n", nil, 3, api.ErrForm}, {"cancel job=1\ncancel job=0\ncancel\n", nil, 1, api.ErrForm}, {"x\ny\nz\n", nil, 0, api.ErrForm},
		{"cancel job=1\ncancel\njob=1\n", nil, 1, api.ErrForm}, {"cancel\njob=1\n", nil, 0, api.ErrForm}, {"cancel job=1 cancel job=1\n", nil, 0, api.ErrForm}, {"cancel job=1\r\n", nil, 0, api.ErrForm}, {"cancel job=1\n\r\n", nil, 1, api.ErrForm}, {"cancel job=1\rcancel job=2\n", nil, 0, api.ErrForm}, {"\r", nil, 0, api.ErrForm}, {"\x00", nil, 0, api.ErrForm},
		{"cancel job=1\\ncancel job=1", nil, 0, api.ErrForm}, {"cancel job=1\vcancel job=1", nil, 0, api.ErrForm}, {"cancel job=1\n\u2028\n", nil, 1, api.ErrForm}, {"cancel job=1;\n", nil, 0, api.ErrForm},
		{"run job=1 node=16 inc=1", nil, 0, api.ErrForm}, {"\n\n\nsubmit job=1 prio=100 cores=0 memory=0 disk=0", nil, 3, api.ErrForm},
	} {
		allIs(t, c.text, c.want, c.at, c.e)
	}
}

// Lines of each kind that is skipped, ahead of each line, between lines and behind them.
func TestPh2AllSkips(t *testing.T) {
	l := valid()
	text, _ := plainText(l)
	lines := strings.SplitAfter(text, "\n")
	for _, skipped := range []string{"\n", " \n", "\t\n", " \t \n", "#\n", "# x\n", "\t# cancel job=0\n", "##\n", "#\x00\r\n", "\n\n\n", "\n#\n \n"} {
		for at := range lines {
			allIs(t, strings.Join(lines[:at], "")+skipped+strings.Join(lines[at:], ""), l, 0, api.OK)
		}
		allIs(t, strings.Join(lines, skipped), l, 0, api.OK)
		allIs(t, skipped, nil, 0, api.OK)
		allIs(t, text+skipped+strings.TrimSuffix(skipped, "\n"), l, 0, api.OK)
	}
}

// The index of a line that is none: among all lines, with some that are skipped, and with others that are none behind it.
func TestPh2AllIndex(t *testing.T) {
	for _, wrong := range []string{"x", "cancel", "cancel job=0", "cancel job=1 x=1", "cancel job=1\r", "\r", "\x00", "run job=1 inc=1 node=1", "gone node=16 inc=1", "gone  node=3 #inc=1", " x # y", "cancel job=01"} {
		for skip := range 3 {
			lines := slices.Repeat([]string{"cancel job=1", "", "# x", " \t"}, 3)[skip:]
			for at := range lines {
				some := slices.Clone(lines)
				some[at] = wrong
				for _, end := range []string{"", "\n", "\nx", "\n\n\n", "\ncancel job=1\n"} {
					allIs(t, strings.Join(some, "\n")+end, nil, at, api.ErrForm)
					allIs(t, strings.Join(some[:at+1], "\n")+end, nil, at, api.ErrForm)
				}
				for behind := at + 1; behind < len(some); behind++ {
					more := slices.Clone(some)
					more[behind] = "y"
					allIs(t, strings.Join(more, "\n"), nil, at, api.ErrForm)
				}
			}
		}
	}
}

// Long texts: an index beyond what a byte, and two, can hold.
func TestPh2AllLong(t *testing.T) {
	for _, many := range []int{255, 256, 257, 65535, 65536, 70000} {
		allIs(t, strings.Repeat("\n", many), nil, 0, api.OK)
		allIs(t, strings.Repeat("\n", many)+"x", nil, many, api.ErrForm)
		allIs(t, strings.Repeat("#\n", many)+"cancel job=1\nx", nil, many+1, api.ErrForm)
		l := slices.Repeat([]api.Event{{Kind: api.EvCancel, Job: many}}, many)
		text := strings.Repeat(fmt.Sprintf("cancel job=%d\n", many), many)
		allIs(t, text, l, 0, api.OK)
		allIs(t, text[:len(text)-1], l, 0, api.OK)
		allIs(t, text+"x\n", nil, many, api.ErrForm)
		textIs(t, l, text, api.OK)
	}
	long := strings.Repeat(" ", 100000)
	allIs(t, long+"cancel"+long+"job=5"+long+"#"+long+"\n"+long, []api.Event{{Kind: api.EvCancel, Job: 5}}, 0, api.OK)
	allIs(t, strings.Repeat("cancel ", 50000), nil, 0, api.ErrForm)
	allIs(t, strings.Repeat("x", 100000), nil, 0, api.ErrForm)
}

// Texts of any lines, each held against the model.
func TestPh2AllMixed(t *testing.T) {
	lines := []string{"", "", " ", "#", "# run", "\t", "cancel job=1", "cancel  job=2 # x", "gone node=1 inc=1", "\trun job=1 node=2 inc=3", "done job=4 node=0 inc=1", "join node=1 inc=1 cores=1 memory=1 disk=1", "resize node=1 inc=1 cores=1 memory=1 disk=0", "submit job=1 prio=1 cores=0 memory=1 disk=1", "x", "cancel job=0"}
	next := mixer(5)
	seen := map[api.Errno]int{}
	for i := range 30000 {
		var some []string
		for range i % 12 {
			some = append(some, lines[next()&api.MaxInt%(len(lines)-i%2*2)])
		}
		seen[wholly(t, strings.Join(some, "\n"))]++
		wholly(t, strings.Join(some, "\n")+"\n")
	}
	if len(seen) != 2 || seen[api.OK] < 5000 || seen[api.ErrForm] < 5000 {
		t.Error(seen)
	}
}

// A text with each byte as any other.
func TestPh2AllOneByte(t *testing.T) {
	text := "cancel job=12\n\n# x\n gone node=3 inc=2\nrun job=1 node=2 inc=3"
	for at := range len(text) {
		wholly(t, text[:at])
		wholly(t, text[at:])
		wholly(t, text[:at]+text[at+1:])
		for b := range 256 {
			wholly(t, text[:at]+string([]byte{byte(b)})+text[at+1:])
			wholly(t, text[:at]+string([]byte{byte(b)})+text[at:])
		}
	}
}

// The lines of a text are those of its events one by one: a text may be put together, and taken apart.
func TestPh2PartByPart(t *testing.T) {
	l := right(2000)
	text := ""
	for _, v := range l {
		line, e := phrase.Line(v)
		one, same := phrase.Text(v)
		if e != api.OK || same != api.OK || one != line+"\n" {
			t.Fatalf("Text(%+v) = %q, %v; the line is %q, %v", v, one, same, line, e)
		}
		text += one
	}
	textIs(t, l, text, api.OK)
	for i, line := range strings.SplitAfter(strings.TrimSuffix(text, "\n"), "\n") {
		allIs(t, line, l[i:i+1], 0, api.OK)
	}
}

// No list that is returned is part of another one.
func TestPh2ListsApart(t *testing.T) {
	text, _ := plainText(valid())
	a, _, _ := phrase.ParseAll(text)
	b, _, _ := phrase.ParseAll(text)
	for i := range a {
		a[i] = api.Event{}
	}
	a = append(a[:3], api.Event{Kind: 9})
	if !slices.Equal(b, valid()) || len(a) != 4 {
		t.Errorf("one list's change is another's: %+v", b)
	}
	allIs(t, text, valid(), 0, api.OK)
}

// No call depends on those before it, and calls at once do not disturb each other.
func TestPh2CallsApart(t *testing.T) {
	l := append(valid(), full()...)
	for _, v := range l {
		for _, w := range valid() {
			plain(t, v)
			plain(t, w)
			none(t, "cancel job=0")
			parseIs(t, spaced(parts(w)...), w, api.OK)
		}
	}
	wrong := make([]int, 8)
	var all sync.WaitGroup
	for n := range wrong {
		all.Go(func() {
			for i := range 3000 {
				v := l[(i*7+n*31)%len(l)]
				want, e := plainLine(v)
				s, got := phrase.Line(v)
				w, again := phrase.Parse(s)
				word, ok := phrase.Word(v.Kind)
				if s != want || got != e || e == api.OK && (w != v || again != api.OK) || e != api.OK && again != api.ErrForm || word != plainWord(v.Kind) || ok != (word != "") {
					wrong[n]++
				}
			}
		})
	}
	all.Wait()
	if slices.Max(wrong) > 0 {
		t.Error(wrong)
	}
}

// Ph3

func TestPh3LinesComeBack(t *testing.T) {
	back := 0
	for _, v := range append(valid(), mixed(40000)...) {
		s, e := phrase.Line(v)
		if e != api.OK {
			continue
		}
		back++
		parseIs(t, s, v, api.OK)
	}
	if back < 10000 {
		t.Errorf("only %d events", back)
	}
}

// Events come back in their order, whether the last line ends or not.
func TestPh3TextsComeBack(t *testing.T) {
	l := append(valid(), right(6000)...)
	next := mixer(6)
	for i := range 3000 {
		var some []api.Event
		for range i % 40 {
			some = append(some, l[next()&api.MaxInt%len(l)])
		}
		text, e := phrase.Text(some...)
		if e != api.OK {
			t.Fatalf("Text(%+v): %v", some, e)
		}
		allIs(t, text, some, 0, api.OK)
		allIs(t, strings.TrimSuffix(text, "\n"), some, 0, api.OK)
		slices.Reverse(some)
		reversed, _ := phrase.Text(some...)
		allIs(t, reversed, some, 0, api.OK)
	}
	text, e := phrase.Text(l...)
	if e != api.OK {
		t.Fatal(e)
	}
	allIs(t, text, l, 0, api.OK)
	allIs(t, text+text, append(slices.Clone(l), l...), 0, api.OK)
}

// Each number at the edges comes back.
func TestPh3NumbersComeBack(t *testing.T) {
	for _, v := range valid() {
		var l []api.Event
		for _, name := range has(v.Kind) {
			least, most := limits(name)
			for _, n := range edges() {
				if n >= least && n <= most {
					l = append(l, with(v, name, n))
				}
			}
		}
		text, e := phrase.Text(l...)
		if e != api.OK {
			t.Fatalf("Text(%+v): %v", l, e)
		}
		allIs(t, text, l, 0, api.OK)
	}
}

// Events that differ have different lines, of which none holds a line feed or a #.
func TestPh3LinesApart(t *testing.T) {
	was := map[string]api.Event{}
	for _, v := range append(valid(), right(20000)...) {
		s, e := phrase.Line(v)
		if e != api.OK || strings.ContainsAny(s, "\n#\t") {
			t.Fatalf("Line(%+v) = %q, %v", v, s, e)
		}
		if w, ok := was[s]; ok && w != v {
			t.Fatalf("%q is the line of %+v and of %+v", s, v, w)
		}
		was[s] = v
	}
}
