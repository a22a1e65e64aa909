package row

import (
	"fmt"
	"slices"
	"strings"
	"testing"

	"reeve/api"
)

// plainLine is what the document says of a row: the word, and for each name that has a number a blank, the name, = and the number's text.
func plainLine(word string, names []string, n []int) string {
	line := word
	for i, name := range names {
		if i < len(n) {
			line += fmt.Sprintf(" %s=%d", name, n[i])
		}
	}
	return line
}

// plainWords is what the document says of a line's words: they stand between blanks, ahead of the first #.
func plainWords(line string) []string {
	ahead := strings.SplitN(line, "#", 2)[0]
	parts := strings.Split(strings.Replace(ahead, "\t", " ", -1), " ")
	return slices.DeleteFunc(parts, func(part string) bool { return part == "" })
}

// plainParse is what the document says of a line as a row: it looks for the numbers of whose row it has the words.
func plainParse(line, word string, names []string) ([]int, api.Errno) {
	l := plainWords(line)
	if len(l) == 0 || len(l) != len(names)+1 || l[0] != word {
		return nil, api.ErrForm
	}
	var numbers []int
	for i, part := range l[1:] {
		n := 0
		fmt.Sscanf(part[strings.LastIndex(part, "=")+1:], "%d", &n)
		if part != fmt.Sprintf("%s=%d", names[i], n) {
			return nil, api.ErrForm
		}
		numbers = append(numbers, n)
	}
	return numbers, api.OK
}

// numbers are those about each power of ten and of two, of both signs, those about the ends, and mixed ones of all lengths; the same in each run.
func numbers() []int {
	var l []int
	for power := 1; power < 1e18; power *= 10 {
		l = append(l, power, power*10)
	}
	for bit := range 63 {
		l = append(l, 1<<bit)
	}
	l = append(l, 0, api.MaxInt, api.MinInt, api.MaxId, api.MaxTick, api.MaxEpoch)
	for _, n := range slices.Clone(l) {
		l = append(l, n-1, n+1, -n-1, -n, -n+1)
	}
	x := uint64(1)
	for i := range 640 {
		x = x*6364136223846793005 + 1442695040888963407
		l = append(l, int(x)>>(i%64))
	}
	return l
}

// noNumbers are texts that are no number's; some of them are one's elsewhere.
func noNumbers() []string {
	return []string{
		"", "-", "--1", "-0", "00", "01", "-01", "000", "0001", "+1", "+0", "+", "1-", "1-2", "1.0", "1.", ".1", "1e3", "1_000", "1,000", "1,2", ",", "0x1", "0b1", "0o7", "1a", "a1", "a", "f", "one",
		"9223372036854775808", "-9223372036854775809", "9223372036854775809", "18446744073709551616", "18446744073709551617", "-18446744073709551617", "99999999999999999999", strings.Repeat("9", 100),
		"=", "=1", "1=", "1=1", "==1", "−1", "١", "１", "½", "1\n", "\n1", "1\r", "\r1", "1\x00", "\x001", "1\v", "\f1", "1\u00a0", "\ufeff1", "1\xff", "\xff",
	}
}

// texts are all that have up to so many of some characters.
func texts(most int, characters ...string) []string {
	l := []string{""}
	from := 0
	for range most {
		end := len(l)
		for _, s := range l[from:end] {
			for _, next := range characters {
				l = append(l, s+next)
			}
		}
		from = end
	}
	return l
}

// lists are all that have up to so many of some texts.
func lists(most int, texts ...string) [][]string {
	l := [][]string{nil}
	from := 0
	for range most {
		end := len(l)
		for _, list := range l[from:end] {
			for _, next := range texts {
				l = append(l, append(slices.Clone(list), next))
			}
		}
		from = end
	}
	return l
}

// eachByte are the texts of one byte.
func eachByte() []string {
	var l []string
	for b := range 256 {
		l = append(l, string([]byte{byte(b)}))
	}
	return l
}

// spaces are signs that are blank elsewhere, but not here; pieces of characters too.
func spaces() []string {
	return []string{"\n", "\r", "\r\n", "\v", "\f", "\x00", "\x1c", "\x1f", "\x85", "\xa0", "\u0085", "\u00a0", "\u1680", "\u2003", "\u2028", "\u202f", "\u3000", "\ufeff", "\u200b", "\u0120", "\u0109", "\xff", ",", ";", "_"}
}

// mixed are bytes of all values, the same in each run; a few of them are more frequent, so that there are words and remarks.
func mixed(many int) string {
	b := make([]byte, many)
	x := uint64(many) + 1
	for i := range b {
		x = x*6364136223846793005 + 1442695040888963407
		b[i] = byte(x >> 56)
		if x>>32&3 == 0 {
			b[i] = " \t#\n=ab1"[x>>40&7]
		}
	}
	return string(b)
}

// named are so many names that differ.
func named(many int) []string {
	var l []string
	for i := range many {
		l = append(l, fmt.Sprintf("n%d", i))
	}
	return l
}

// counted are so many numbers of both signs that differ.
func counted(many int) []int {
	var l []int
	for i := range many {
		l = append(l, (i*i*i+1)*(1-i%2*2))
	}
	return l
}

func lineIs(t *testing.T, want, word string, names []string, n ...int) {
	t.Helper()
	if s := Line(word, names, n...); s != want {
		t.Fatalf("Line(%.60q, %.60q, %.60v) = %.60q; want %.60q", word, names, n, s, want)
	}
}

func wordIs(t *testing.T, want, line string) {
	t.Helper()
	if s := Word(line); s != want {
		t.Fatalf("Word(%.60q) = %.60q; want %.60q", line, s, want)
	}
}

func parseIs(t *testing.T, line, word string, names []string, want ...int) {
	t.Helper()
	if n, e := Parse(line, word, names...); !slices.Equal(n, want) || e != api.OK {
		t.Fatalf("Parse(%.60q, %.60q, %.60q) = %.60v, %v; want %.60v, ok", line, word, names, n, e, want)
	}
}

func refused(t *testing.T, line, word string, names ...string) {
	t.Helper()
	if n, e := Parse(line, word, names...); len(n) != 0 || e != api.ErrForm {
		t.Fatalf("Parse(%.60q, %.60q, %.60q) = %.60v, %v; want none, form", line, word, names, n, e)
	}
}

func parseAsPlain(t *testing.T, line, word string, names ...string) {
	t.Helper()
	want, e := plainParse(line, word, names)
	if e != api.OK {
		refused(t, line, word, names...)
		return
	}
	parseIs(t, line, word, names, want...)
}

// Ro1: Line

// Example 1 and others.
func TestRo1LineExamples(t *testing.T) {
	lineIs(t, "node id=1 inc=2", "node", []string{"id", "inc"}, 1, 2)
	lineIs(t, "node id=1 inc=-2", "node", []string{"id", "inc"}, 1, -2)
	lineIs(t, "node inc=2 id=1", "node", []string{"inc", "id"}, 2, 1)
	lineIs(t, "job id=0 prio=99 seq=10", "job", []string{"id", "prio", "seq"}, 0, 99, 10)
	lineIs(t, "x a=1 a=2 a=1", "x", []string{"a", "a", "a"}, 1, 2, 1)
	lineIs(t, "x a=-9223372036854775808 b=9223372036854775807", "x", []string{"a", "b"}, api.MinInt, api.MaxInt)
	lineIs(t, "x a=0", "x", []string{"a"}, 0)
}

func TestRo1LineWithoutNames(t *testing.T) {
	for _, names := range [][]string{nil, {}} {
		lineIs(t, "node", "node", names)
		lineIs(t, "node", "node", names, 1)
		lineIs(t, "node", "node", names, 1, 2, 3)
		lineIs(t, "", "", names)
		lineIs(t, "", "", names, 1)
	}
}

func TestRo1LineOmitsWhatHasNoOther(t *testing.T) {
	names := []string{"id", "inc"}
	lineIs(t, "node", "node", names)
	lineIs(t, "node", "node", names, []int{}...)
	lineIs(t, "node id=1", "node", names, 1)
	lineIs(t, "node id=1 inc=2", "node", names, 1, 2)
	lineIs(t, "node id=1 inc=2", "node", names, 1, 2, 3)
	lineIs(t, "node id=1 inc=2", "node", names, 1, 2, 3, 4, 5)
	lineIs(t, "node id=0", "node", names, 0)
	for many := range 12 {
		for more := range 12 {
			l, n := named(many), counted(more)
			lineIs(t, plainLine("node", l, n), "node", l, n...)
		}
	}
}

func TestRo1LineOfEachNumber(t *testing.T) {
	all := numbers()
	for _, n := range all {
		lineIs(t, fmt.Sprintf("x a=%d", n), "x", []string{"a"}, n)
		lineIs(t, fmt.Sprintf("x a=%d b=%d c=%d", n, -7, n), "x", []string{"a", "b", "c"}, n, -7, n)
	}
	names := named(len(all))
	lineIs(t, plainLine("x", names, all), "x", names, all...)
}

// The word and the names stand in the row as they are, even if they could not be read back.
func TestRo1LineOfAnyWordAndNames(t *testing.T) {
	for _, s := range append(append(eachByte(), spaces()...), "", "a b", " a ", "a=b", "=", "a=1", "#a", "a # b", "\t\t", "é", mixed(50)) {
		lineIs(t, s, s, nil)
		lineIs(t, s+" a=1", s, []string{"a"}, 1)
		lineIs(t, "x "+s+"=1", "x", []string{s}, 1)
		lineIs(t, s+" "+s+"=1 "+s+"=-2", s, []string{s, s}, 1, -2)
	}
	for _, names := range lists(3, "", "a", "bc", "=", " ", "#") {
		for more := range 5 {
			n := counted(more)
			lineIs(t, plainLine("x", names, n), "x", names, n...)
			lineIs(t, plainLine("", names, n), "", names, n...)
		}
	}
}

// So many parts that a row copied anew for each one would take minutes.
func TestRo1LineOfManyParts(t *testing.T) {
	const many = 1 << 18
	names, n := named(many), counted(many)
	var want strings.Builder
	want.WriteString("node")
	for i, name := range names {
		fmt.Fprintf(&want, " %s=%d", name, n[i])
	}
	lineIs(t, want.String(), "node", names, n...)
}

// Ro1: Word

func TestRo1WordExamples(t *testing.T) {
	wordIs(t, "node", "node")
	wordIs(t, "node", "node id=1 inc=2")
	wordIs(t, "a", " a b")
	wordIs(t, "a", "\t a\tb")
	wordIs(t, "a", "a ")
	wordIs(t, "a", "a b a")
	wordIs(t, "b", "b a")
	wordIs(t, "a", "a # b")
	wordIs(t, "a", "a#b")
	wordIs(t, "a=1", "a=1 b=2")
	wordIs(t, "=", "= a")
	wordIs(t, "a\nb", "a\nb c")
	wordIs(t, "\n", "\n a")
}

func TestRo1WordOfNone(t *testing.T) {
	for _, blanks := range texts(6, " ", "\t") {
		wordIs(t, "", blanks)
		wordIs(t, "", blanks+"#")
		wordIs(t, "", blanks+"# a")
		wordIs(t, "", blanks+"#a b")
		wordIs(t, "a", blanks+"a")
		wordIs(t, "a", blanks+"a"+blanks+"# b")
	}
}

func TestRo1WordEachByte(t *testing.T) {
	for _, s := range append(eachByte(), spaces()...) {
		for _, line := range []string{s, s + "a", "a" + s, "a" + s + "b", s + " a", " " + s, "a " + s} {
			want := ""
			if l := plainWords(line); len(l) > 0 {
				want = l[0]
			}
			wordIs(t, want, line)
		}
	}
}

func TestRo1WordOfAnyLine(t *testing.T) {
	lines := texts(6, "a", "b", " ", "\t", "#", "\n")
	for size := range 300 {
		lines = append(lines, mixed(size))
	}
	lines = append(lines, strings.Repeat("a ", 1<<16), strings.Repeat("a", 1<<18), strings.Repeat(" ", 1<<18)+"b")
	for _, line := range lines {
		want := ""
		if l := plainWords(line); len(l) > 0 {
			want = l[0]
		}
		wordIs(t, want, line)
	}
}

func TestRo1WordOfARow(t *testing.T) {
	for _, word := range []string{"node", "x", "a=1", "=", "-", "\n", "\xff"} {
		for many := range 4 {
			wordIs(t, word, Line(word, named(many), counted(many)...))
		}
	}
}

// Ro2

func TestRo2ParseExamples(t *testing.T) {
	names := []string{"id", "inc"}
	parseIs(t, "node id=1 inc=2", "node", names, 1, 2)
	parseIs(t, "node id=2 inc=1", "node", names, 2, 1)
	parseIs(t, "node id=1 inc=-2", "node", names, 1, -2)
	parseIs(t, "node id=0 inc=0", "node", names, 0, 0)
	parseIs(t, "node inc=2 id=1", "node", []string{"inc", "id"}, 2, 1)
	parseIs(t, "x a=1 a=2 a=1", "x", []string{"a", "a", "a"}, 1, 2, 1)
	parseIs(t, "a a=1", "a", []string{"a"}, 1)
	parseIs(t, "a=1 a=1", "a=1", []string{"a"}, 1)
}

func TestRo2ParseWithoutNames(t *testing.T) {
	for _, names := range [][]string{nil, {}} {
		parseIs(t, "node", "node", names)
		parseIs(t, " node\t# id=1", "node", names)
		for _, line := range []string{"", " ", "#node", "nodes", "nod", "node node", "node id=1", "node =", "id=1"} {
			refused(t, line, "node", names...)
		}
	}
}

// A line without words is no row, not even of the empty word.
func TestRo2ParseLinesWithoutWords(t *testing.T) {
	for _, blanks := range texts(5, " ", "\t") {
		for _, line := range []string{blanks, blanks + "#", blanks + "# node", blanks + "#node id=1", blanks + "# node id=1 inc=2"} {
			for _, word := range []string{"", " ", "#", "node"} {
				refused(t, line, word)
				refused(t, line, word, "")
				refused(t, line, word, "id")
				refused(t, line, word, "id", "inc")
			}
		}
	}
}

// One word too few or too many, at each place of rows of all short lengths.
func TestRo2ParseOtherCounts(t *testing.T) {
	for many := range 8 {
		names := named(many)
		row := strings.Split(plainLine("node", names, counted(many)), " ")
		parseIs(t, strings.Join(row, " "), "node", names, counted(many)...)
		for at := range row {
			refused(t, strings.Join(slices.Delete(slices.Clone(row), at, at+1), " "), "node", names...)
		}
		for at := range len(row) + 1 {
			for _, more := range []string{"x", "node", "n0=1", "n9=1", "=1", "1", "=", row[max(at-1, 0)], row[len(row)-1]} {
				refused(t, strings.Join(slices.Insert(slices.Clone(row), at, more), " "), "node", names...)
			}
		}
		refused(t, "", "node", names...)
		refused(t, strings.Join(append(row, row...), " "), "node", names...)
	}
}

// The line is the same, but more or fewer names are asked for.
func TestRo2ParseOtherNumbersOfNames(t *testing.T) {
	for many := range 8 {
		line := plainLine("node", named(many), counted(many))
		for asked := range 10 {
			if asked == many {
				parseIs(t, line, "node", named(asked), counted(many)...)
			} else {
				refused(t, line, "node", named(asked)...)
			}
		}
		refused(t, line, "node", append(named(many), "")...)
	}
}

func TestRo2ParseAnotherFirstWord(t *testing.T) {
	names := []string{"id", "inc"}
	for _, other := range []string{"nodes", "nod", "ode", "n", "Node", "NODE", "node=", "=node", "node=1", "id=1", "id", "job", "edon", "node\n", "\nnode", "node\r", "node\x00", "n\u00f6de", "node\xff", "nodé"} {
		refused(t, other+" id=1 inc=2", "node", names...)
		refused(t, "node id=1 inc=2", other, names...)
		refused(t, other, "node")
		refused(t, "node", other)
		parseIs(t, other+" id=1 inc=2", other, names, 1, 2)
	}
	for _, never := range []string{"", " ", "\t", "#", " node", "node ", "no de", "node#", "#node", "node\t", "node id=1"} {
		for _, line := range []string{"node id=1 inc=2", never + " id=1 inc=2", " id=1 inc=2", "id=1 inc=2", "x id=1 inc=2"} {
			refused(t, line, never, names...)
		}
		refused(t, never, never)
		refused(t, "x "+never, never)
	}
}

func TestRo2ParseAnotherName(t *testing.T) {
	for _, other := range []string{"", "i", "d", "di", "idd", "iid", "ID", "Id", "inc", "id=", "=id", "id=1", "id-", "-id", "id\n", "\nid", "id\x00", "\u0131d", "id\xff", "1", "-"} {
		refused(t, "x "+other+"=1", "x", "id")
		refused(t, "x id=1", "x", other)
		refused(t, "x a=3 "+other+"=1 b=4", "x", "a", "id", "b")
		refused(t, "x a=3 id=1 b=4", "x", "a", other, "b")
		parseIs(t, "x "+other+"=1", "x", []string{other}, 1)
	}
	for _, never := range []string{" ", "\t", "#", "i d", " id", "id ", "id\t", "#id", "id#", "id=1 inc"} {
		for _, line := range []string{"x id=1", "x " + never + "=1", "x =1", "x i d=1", "x id =1"} {
			refused(t, line, "x", never)
		}
	}
}

func TestRo2ParseWithoutEquals(t *testing.T) {
	for _, part := range []string{"id", "id1", "id-1", "id0", "1", "id:1", "id==1", "id==", "id+=1", "id=-=1", "id＝1", "id=1=", "=id", "=1", "=", "id\x001", "id>1", "id<1", "id%3d1"} {
		refused(t, "x "+part, "x", "id")
		refused(t, "x a=3 "+part, "x", "a", "id")
		refused(t, "x "+part+" a=3", "x", "id", "a")
	}
	refused(t, "x id = 1", "x", "id")
	refused(t, "x id= 1", "x", "id")
	refused(t, "x id =1", "x", "id")
	refused(t, "x id = 1", "x", "id", "", "1")
}

// A = may be one of the name's own: the number is what stands behind the name and one more.
func TestRo2ParseNamesWithEquals(t *testing.T) {
	parseIs(t, "x a=b=1", "x", []string{"a=b"}, 1)
	parseIs(t, "x a==1", "x", []string{"a="}, 1)
	parseIs(t, "x ==-1", "x", []string{"="}, -1)
	parseIs(t, "x ===1", "x", []string{"=="}, 1)
	parseIs(t, "x a=1=2 a=1", "x", []string{"a=1", "a"}, 2, 1)
	refused(t, "x a=b=1", "x", "a")
	refused(t, "x a=1", "x", "a=b")
	refused(t, "x a=1", "x", "a=")
	refused(t, "x a=1", "x", "a=1")
	refused(t, "x a=1=", "x", "a=1")
	refused(t, "x =1", "x", "=")
	parseIs(t, "x =1 =-2", "x", []string{"", ""}, 1, -2)
}

func TestRo2ParseNoNumbers(t *testing.T) {
	for _, text := range noNumbers() {
		refused(t, "x a="+text, "x", "a")
		refused(t, "x a="+text+" b=2", "x", "a", "b")
		refused(t, "x b=2 a="+text, "x", "b", "a")
		refused(t, "x b=2 a="+text+" c=-3", "x", "b", "a", "c")
	}
	for _, sign := range eachByte() {
		for _, text := range []string{sign, sign + "1", "1" + sign, "1" + sign + "2"} {
			parseAsPlain(t, "x a="+text, "x", "a")
			parseAsPlain(t, "x b=2 a="+text+" c=-3", "x", "b", "a", "c")
		}
	}
}

func TestRo2ParseEachNumber(t *testing.T) {
	for _, n := range numbers() {
		parseIs(t, fmt.Sprintf("x a=%d", n), "x", []string{"a"}, n)
		parseIs(t, fmt.Sprintf("x a=%d b=%d c=%d", n, -7, n), "x", []string{"a", "b", "c"}, n, -7, n)
		refused(t, fmt.Sprintf("x a=0%d", n), "x", "a")
		refused(t, fmt.Sprintf("x a=%dx", n), "x", "a")
		if n > 0 {
			refused(t, fmt.Sprintf("x a=+%d", n), "x", "a")
		}
	}
	parseIs(t, "x a=-9223372036854775808 b=9223372036854775807", "x", []string{"a", "b"}, api.MinInt, api.MaxInt)
	refused(t, "x a=-9223372036854775809 b=9223372036854775807", "x", "a", "b")
	refused(t, "x a=-9223372036854775808 b=9223372036854775808", "x", "a", "b")
}

// Each order of four names is that of one line alone.
func TestRo2ParseNamesInAnotherOrder(t *testing.T) {
	refused(t, "node inc=2 id=1", "node", "id", "inc")
	refused(t, "node id=1 inc=2", "node", "inc", "id")
	names := []string{"id", "inc", "i", "idinc"}
	for _, asked := range lists(4, names...) {
		for _, given := range lists(4, names...) {
			n := counted(len(given))
			line := plainLine("node", given, n)
			if slices.Equal(asked, given) {
				parseIs(t, line, "node", asked, n...)
			} else {
				refused(t, line, "node", asked...)
			}
		}
	}
}

// What is wrong is remembered, wherever it stands and whatever is right behind it.
func TestRo2ParseOneWrongPart(t *testing.T) {
	for many := 1; many < 8; many++ {
		names := named(many)
		row := strings.Split(plainLine("node", names, counted(many)), " ")
		for at := range row {
			for _, wrong := range []string{"x", "x=1", "=1", "=", names[0], names[0] + "=", names[0] + "=01", names[max(at-1, 0)], names[max(at-1, 0)] + "=", names[max(at-1, 0)] + "=-0", names[max(at-1, 0)] + "1", names[max(at-1, 0)] + "==1", row[at] + "=", row[at] + "a", "a" + row[at]} {
				l := slices.Clone(row)
				l[at] = wrong
				refused(t, strings.Join(l, " "), "node", names...)
			}
		}
	}
}

func TestRo2ParseBlanksAndRemarks(t *testing.T) {
	names := []string{"id", "inc"}
	some := texts(3, " ", "\t")
	for _, blanks := range some {
		for _, more := range some {
			for _, remark := range []string{"", "#", "# x", "#x", "## id=3", "# node id=3 inc=4", "#\nnode"} {
				if blanks != "" && more != "" {
					parseIs(t, blanks+"node"+more+"id=1"+blanks+"inc=-2"+more+remark, "node", names, 1, -2)
					parseIs(t, "node"+blanks+"id=1"+more+"inc=-2"+remark, "node", names, 1, -2)
				}
				parseIs(t, blanks+"node"+more+remark, "node", nil)
			}
		}
	}
	refused(t, "# node id=1 inc=2", "node", names...)
	refused(t, "#node id=1 inc=2", "node", names...)
	refused(t, "node # id=1 inc=2", "node", names...)
	refused(t, "node id=1 # inc=2", "node", names...)
	refused(t, "node id=1# inc=2", "node", names...)
	refused(t, "node id=1 inc=#2", "node", names...)
	refused(t, "node id=1 inc#=2", "node", names...)
	refused(t, "node id=1 #inc=2", "node", names...)
	refused(t, "nod#e id=1 inc=2", "node", names...)
	refused(t, "nodeid=1 inc=2", "node", names...)
	refused(t, "node id=1inc=2", "node", names...)
	parseIs(t, "node id=1 inc=2#3", "node", names, 1, 2)
}

// Of all signs, two are blanks: the others are part of a word, a byte 10 too.
func TestRo2ParseOtherSpaces(t *testing.T) {
	for _, sign := range spaces() {
		refused(t, "node"+sign+"id=1", "node", "id")
		refused(t, "node id=1"+sign, "node", "id")
		refused(t, sign+"node id=1", "node", "id")
		refused(t, "node "+sign+"id=1", "node", "id")
		refused(t, "node"+sign+" id=1", "node", "id")
		refused(t, "node id=1"+sign+"inc=2", "node", "id", "inc")
		refused(t, "node id=1 "+sign, "node", "id")
		refused(t, sign+" node id=1", "node", "id")
		parseIs(t, sign+" "+sign+"=1", sign, []string{sign}, 1)
	}
	for _, sign := range eachByte() {
		parseAsPlain(t, "node"+sign+"id=1", "node", "id")
		parseAsPlain(t, "node id=1"+sign, "node", "id")
		parseAsPlain(t, sign+"node id=1", "node", "id")
		parseAsPlain(t, "node id"+sign+"1", "node", "id")
		parseAsPlain(t, "node id=1"+sign+"inc=2", "node", "id", "inc")
	}
}

func TestRo2ParseShortLines(t *testing.T) {
	for _, line := range texts(7, "x", "a", "=", "1", " ") {
		parseAsPlain(t, line, "x")
		parseAsPlain(t, line, "x", "a")
		parseAsPlain(t, line, "a", "")
		parseAsPlain(t, line, "x", "a", "")
		parseAsPlain(t, line, "x", "a=")
		parseAsPlain(t, line, "")
		parseAsPlain(t, line, "", "a")
	}
	for _, line := range texts(6, "0", "1", "-", "=", "#", "\t", "a") {
		parseAsPlain(t, "x "+line, "x")
		parseAsPlain(t, "x "+line, "x", "a")
		parseAsPlain(t, "x a="+line, "x", "a")
		parseAsPlain(t, "x a="+line, "x", "a", "")
	}
}

func TestRo2ParseShortListsOfWords(t *testing.T) {
	for _, l := range lists(4, "x", "y", "a=1", "b=-2", "a=", "b", "=1", "b=01", "#a=1", "a=1=1") {
		line := strings.Join(l, " ")
		parseAsPlain(t, line, "x")
		parseAsPlain(t, line, "x", "a")
		parseAsPlain(t, line, "x", "b")
		parseAsPlain(t, line, "x", "a", "b")
		parseAsPlain(t, line, "x", "a", "a")
		parseAsPlain(t, line, "y", "a", "b", "")
		parseAsPlain(t, line, "a=1", "b", "a")
	}
}

func TestRo2ParseAnyBytes(t *testing.T) {
	for size := range 600 {
		line := mixed(size)
		parseAsPlain(t, line, Word(line))
		parseAsPlain(t, line, "a", "b")
		parseAsPlain(t, "a "+line, "a", "b")
		parseAsPlain(t, "a b="+line, "a", "b")
		parseAsPlain(t, "a b=1 "+line, "a", "b")
	}
}

// The document names no limit to how many parts there are, or to how long one is.
func TestRo2ParseLongLines(t *testing.T) {
	const many = 1 << 18
	names, n := named(many), counted(many)
	line := Line("node", names, n...)
	parseIs(t, line, "node", names, n...)
	refused(t, line+"x", "node", names...)
	refused(t, line, "node", names[1:]...)
	refused(t, line, "node", append(slices.Clone(names[1:]), "n0")...)

	long := strings.Repeat("a", many)
	parseIs(t, long+" "+long+"=1", long, []string{long}, 1)
	refused(t, long+" "+long+"=1", long, long+"a")
	refused(t, "x a="+strings.Repeat("1", many), "x", "a")
	refused(t, "x"+strings.Repeat(" a", many), "x", slices.Repeat([]string{long}, many)...)
}

// Ro3

// notes are words and names from which the numbers can be recovered.
func notes() []string {
	l := []string{"node", "id", "a", "A", "-", "1", "-1", "a-b", "a.b", "a,b", "\n", "a\nb", "\r", "é", "\u00a0", "\xff\xfe", "a\x00", strings.Repeat("long", 100)}
	for _, s := range eachByte() {
		if !strings.Contains(" \t#=", s) {
			l = append(l, s, s+s, "a"+s, s+"a")
		}
	}
	return l
}

func recovered(t *testing.T, word string, names []string, n ...int) {
	t.Helper()
	parseIs(t, Line(word, names, n...), word, names, n...)
}

func TestRo3NumbersAreRecovered(t *testing.T) {
	for _, n := range numbers() {
		recovered(t, "node", []string{"id"}, n)
		recovered(t, "node", []string{"id", "inc", "load"}, n, 0, -n)
	}
	for many := range 64 {
		recovered(t, "node", named(many), counted(many)...)
		recovered(t, "node", slices.Repeat([]string{"same"}, many), counted(many)...)
		recovered(t, "node", make([]string, many), counted(many)...)
	}
	all := numbers()
	recovered(t, "node", named(len(all)), all...)
}

func TestRo3OfAllWordsAndNames(t *testing.T) {
	all := notes()
	for i, s := range all {
		recovered(t, s, nil)
		recovered(t, s, []string{"a", "b"}, 1, -2)
		recovered(t, "x", []string{s}, -1)
		recovered(t, s, []string{s, s + s, s}, 3, 2, 1)
		recovered(t, s, []string{all[len(all)-1-i], s}, api.MinInt, api.MaxInt)
	}
	recovered(t, "x", all, counted(len(all))...)
	for _, names := range lists(4, "a", "b", "ab", "", "-", "1") {
		recovered(t, "x", names, counted(len(names))...)
	}
}

// The word alone may have a =, so that it may look like a part or a row's end.
func TestRo3OfWordsWithEquals(t *testing.T) {
	for _, word := range []string{"=", "==", "a=", "=1", "a=1", "id=1", "a=b=1"} {
		recovered(t, word, nil)
		recovered(t, word, []string{"a"}, 1)
		recovered(t, word, []string{"id", "a"}, 1, 1)
	}
}

// What was omitted from a row is missing in it: the others are recovered by their own names alone.
func TestRo3OfWhatIsNotOmitted(t *testing.T) {
	for many := range 6 {
		for more := range 6 {
			names, n := named(many), counted(more)
			both := min(many, more)
			line := Line("node", names, n...)
			parseIs(t, line, "node", names[:both], n[:both]...)
			if both < many {
				refused(t, line, "node", names...)
			}
		}
	}
}

// Rows that differ in one number differ.
func TestRo3RowsDiffer(t *testing.T) {
	seen := map[string][2]int{}
	some := numbers()[:200]
	slices.Sort(some)
	some = slices.Compact(some)
	for _, a := range some {
		for _, b := range some {
			line := Line("x", []string{"a", "b"}, a, b)
			if old, ok := seen[line]; ok {
				t.Fatalf("%q is the row of %v and of %d, %d", line, old, a, b)
			}
			seen[line] = [2]int{a, b}
		}
	}
}

// R3, in the calls that take or give a list

func TestRo1Ro2ListsAreKeptAsTheyAre(t *testing.T) {
	names, n := []string{"id", "inc", "behind", "the end"}, []int{1, 2, 3, 4}
	oldNames, oldN := slices.Clone(names), slices.Clone(n)
	Line("node", names[:2], n[:2]...)
	Line("node", names[:1], n[:2]...)
	Line("node", names[:2], n[:1]...)
	Parse("node id=7 inc=8", "node", names[:2]...)
	Parse("node id=7 inc=x", "node", names[:2]...)
	if !slices.Equal(names, oldNames) || !slices.Equal(n, oldN) {
		t.Errorf("the lists became %q and %v", names, n)
	}
}

// A list that is answered is the caller's own, even behind its end.
func TestRo2ListsAreNew(t *testing.T) {
	call := func() []int {
		n, _ := Parse("x a=1 b=2 c=3", "x", "a", "b", "c")
		return n
	}
	first, second := call(), call()
	first[0] = 7
	_ = append(first[:1], 8, 9, 10)
	for _, l := range [][]int{second, call()} {
		if !slices.Equal(l, []int{1, 2, 3}) {
			t.Error(l)
		}
	}
}

// R4: what was read or refused before changes nothing.
func TestRo2CallsAreOnTheirOwn(t *testing.T) {
	for range 3 {
		refused(t, "node id=1 inc=x", "node", "id", "inc")
		parseIs(t, "node id=1 inc=2", "node", []string{"id", "inc"}, 1, 2)
		refused(t, "", "node")
		parseIs(t, "node", "node", nil)
		lineIs(t, "node id=1", "node", []string{"id"}, 1)
		wordIs(t, "node", "node id=1")
	}
}
