package words

import (
	"slices"
	"strings"
	"testing"
)

// plainLines is what the document says of a text's lines: they stand between the bytes 10, and behind the last one no line begins.
func plainLines(s string) []string {
	l := strings.Split(s, "\n")
	if l[len(l)-1] == "" {
		l = l[:len(l)-1]
	}
	return l
}

// plainWords is what the document says of a line's words: they stand between blanks, and none of them is empty.
func plainWords(line string) []string {
	ahead := strings.SplitN(line, "#", 2)[0]
	parts := strings.Split(strings.Replace(ahead, "\t", " ", -1), " ")
	return slices.DeleteFunc(parts, func(part string) bool { return part == "" })
}

// plainCut is what the document says of a text before and after a sign's first byte: byte by byte.
func plainCut(s string, sign byte) (string, string, bool) {
	var before, after []byte
	found := false
	for _, b := range []byte(s) {
		switch {
		case found:
			after = append(after, b)
		case b == sign:
			found = true
		default:
			before = append(before, b)
		}
	}
	if !found {
		return "", "", false
	}
	return string(before), string(after), true
}

// texts are all that have up to so many of some characters.
func texts(most int, characters ...string) []string {
	l := []string{""}
	from := 0
	for range most {
		end := len(l)
		for _, s := range l[from:end] {
			for _, next := range characters {
				l = append(l, s+next)
			}
		}
		from = end
	}
	return l
}

// lists are all that have up to so many of some texts.
func lists(most int, texts ...string) [][]string {
	l := [][]string{nil}
	from := 0
	for range most {
		end := len(l)
		for _, list := range l[from:end] {
			for _, next := range texts {
				l = append(l, append(slices.Clone(list), next))
			}
		}
		from = end
	}
	return l
}

// eachByte are the texts of one byte.
func eachByte() []string {
	var l []string
	for b := range 256 {
		l = append(l, string([]byte{byte(b)}))
	}
	return l
}

// spaces are signs that end a line, a word or a remark elsewhere, but not here; pieces of characters too.
func spaces() []string {
	return []string{"\r", "\v", "\f", "\x00", "\x1c", "\x1d", "\x1e", "\x1f", "\x85", "\xa0", "\u0085", "\u00a0", "\u1680", "\u2003", "\u2028", "\u2029", "\u202f", "\u3000", "\ufeff", "\u200b", "\u010a", "\u0120", "\u0109", "\u0123", "\xff", "\xc2", "\xe2\x80", "//", ";", "'", "\"", "\\", "＃", "é"}
}

// mixed are bytes of all values, the same in each run; a few of them are more frequent, so that there are lines and words.
func mixed(many int) string {
	b := make([]byte, many)
	x := uint64(many) + 1
	for i := range b {
		x = x*6364136223846793005 + 1442695040888963407
		b[i] = byte(x >> 56)
		if x>>32&3 == 0 {
			b[i] = " \t#\n\nab "[x>>40&7]
		}
	}
	return string(b)
}

func linesAre(t *testing.T, s string, want ...string) {
	t.Helper()
	if l := Lines(s); !slices.Equal(l, want) {
		t.Fatalf("Lines(%.60q) = %.60q; want %.60q", s, l, want)
	}
}

func wordsAre(t *testing.T, line string, want ...string) {
	t.Helper()
	if l := Words(line); !slices.Equal(l, want) {
		t.Fatalf("Words(%.60q) = %.60q; want %.60q", line, l, want)
	}
}

func joinIs(t *testing.T, want string, l ...string) {
	t.Helper()
	if s := Join(l...); s != want {
		t.Fatalf("Join(%.60q) = %.60q; want %.60q", l, s, want)
	}
}

func textIs(t *testing.T, want string, l ...string) {
	t.Helper()
	if s := Text(l...); s != want {
		t.Fatalf("Text(%.60q) = %.60q; want %.60q", l, s, want)
	}
}

func findIs(t *testing.T, at int, found bool, word string, l ...string) {
	t.Helper()
	if k, ok := Find(word, l...); k != at || ok != found {
		t.Fatalf("Find(%.60q, %.60q) = %d, %v; want %d, %v", word, l, k, ok, at, found)
	}
}

func cutIs(t *testing.T, s string, sign byte, before, after string, found bool) {
	t.Helper()
	if a, b, ok := Cut(s, sign); a != before || b != after || ok != found {
		t.Fatalf("Cut(%.60q, %q) = %.60q, %.60q, %v; want %.60q, %.60q, %v", s, sign, a, b, ok, before, after, found)
	}
}

// Wo1: Lines

func TestWo1LinesExamples(t *testing.T) {
	linesAre(t, "")
	linesAre(t, "\n", "")
	linesAre(t, "\n\n", "", "")
	linesAre(t, "\n\n\n", "", "", "")
	linesAre(t, "a", "a")
	linesAre(t, "a\n", "a")
	linesAre(t, "a\n\n", "a", "")
	linesAre(t, "\na", "", "a")
	linesAre(t, "\na\n", "", "a")
	linesAre(t, "\n\na", "", "", "a")
	linesAre(t, "a\nb", "a", "b")
	linesAre(t, "a\nb\n", "a", "b")
	linesAre(t, "a\n\nb", "a", "", "b")
	linesAre(t, "one two\n three #\n#\nfour", "one two", " three #", "#", "four")
}

// What is blank, or nothing but a remark, is a line all the same, and nothing is taken from its ends.
func TestWo1LinesKeepAllElse(t *testing.T) {
	linesAre(t, " ", " ")
	linesAre(t, "\t\n", "\t")
	linesAre(t, " \n \n", " ", " ")
	linesAre(t, " a \n\tb\t", " a ", "\tb\t")
	linesAre(t, "#\n# a\na # b\n", "#", "# a", "a # b")
	linesAre(t, "# a\nb", "# a", "b")
	linesAre(t, "a\r\nb\r\n", "a\r", "b\r")
	linesAre(t, "\r\n", "\r")
	linesAre(t, "\n\r", "", "\r")
	for _, sign := range spaces() {
		linesAre(t, sign, sign)
		linesAre(t, "a"+sign+"b", "a"+sign+"b")
		linesAre(t, sign+"\n"+sign+"\n", sign, sign)
		linesAre(t, sign+"\n\n"+sign, sign, "", sign)
	}
}

// Of all bytes, one ends a line.
func TestWo1LinesEachByte(t *testing.T) {
	for b, s := range eachByte() {
		if b == 10 {
			linesAre(t, "a"+s+"b", "a", "b")
			continue
		}
		linesAre(t, s, s)
		linesAre(t, "a"+s+"b", "a"+s+"b")
		linesAre(t, s+"\n"+s, s, s)
	}
}

func TestWo1LinesShortTexts(t *testing.T) {
	for _, s := range texts(7, "\n", "a", " ", "#", "\r") {
		linesAre(t, s, plainLines(s)...)
	}
}

func TestWo1LinesOfAnyBytes(t *testing.T) {
	for size := range 600 {
		s := mixed(size)
		linesAre(t, s, plainLines(s)...)
	}
}

// Many lines, and long ones: were the text gone through anew for each line, this wouldn't end in time.
func TestWo1LinesLongTexts(t *testing.T) {
	const many = 1 << 20
	for _, s := range []string{strings.Repeat("\n", many), strings.Repeat("a\n", many), strings.Repeat("a", many), strings.Repeat("a", many) + "\n", "\n" + strings.Repeat("a", many), mixed(many)} {
		linesAre(t, s, plainLines(s)...)
	}
	if l := Lines(strings.Repeat("\n", many)); len(l) != many {
		t.Errorf("%d lines of %d", len(l), many)
	}
}

// Wo1: Words

// Example 1 and others.
func TestWo1WordsExamples(t *testing.T) {
	wordsAre(t, "a  b # c", "a", "b")
	wordsAre(t, "")
	wordsAre(t, "a", "a")
	wordsAre(t, "a b", "a", "b")
	wordsAre(t, "a\tb", "a", "b")
	wordsAre(t, " a", "a")
	wordsAre(t, "a ", "a")
	wordsAre(t, "\ta\t", "a")
	wordsAre(t, "  a\t \tb  ", "a", "b")
	wordsAre(t, "one two three", "one", "two", "three")
	wordsAre(t, "two one two", "two", "one", "two")
	wordsAre(t, "a=1 b=-2,3", "a=1", "b=-2,3")
}

func TestWo1WordsOfBlanks(t *testing.T) {
	for _, line := range texts(8, " ", "\t") {
		wordsAre(t, line)
		wordsAre(t, line+"#")
		wordsAre(t, line+"a", "a")
		wordsAre(t, "a"+line, "a")
		if line != "" {
			wordsAre(t, "a"+line+"b", "a", "b")
		}
	}
}

// A remark begins at the first # wherever it stands, and goes to the end.
func TestWo1WordsRemarks(t *testing.T) {
	wordsAre(t, "#")
	wordsAre(t, "##")
	wordsAre(t, "# a")
	wordsAre(t, "#a")
	wordsAre(t, "#a b c")
	wordsAre(t, " # a")
	wordsAre(t, "\t#a")
	wordsAre(t, "a#", "a")
	wordsAre(t, "a #", "a")
	wordsAre(t, "a#b", "a")
	wordsAre(t, "a#b c", "a")
	wordsAre(t, "a #b c", "a")
	wordsAre(t, "a b#c d", "a", "b")
	wordsAre(t, "a b # c # d", "a", "b")
	wordsAre(t, "a#b#c d#e", "a")
	wordsAre(t, "a\\#b", "a\\")
	wordsAre(t, "\"a#b\"", "\"a")
}

// A byte 10 is one of a word's bytes, and does not end a remark.
func TestWo1WordsWithNewlines(t *testing.T) {
	wordsAre(t, "\n", "\n")
	wordsAre(t, "a\nb", "a\nb")
	wordsAre(t, "a\n", "a\n")
	wordsAre(t, "\na", "\na")
	wordsAre(t, "a \n b", "a", "\n", "b")
	wordsAre(t, "a b\nc d", "a", "b\nc", "d")
	wordsAre(t, "\n\n", "\n\n")
	wordsAre(t, "a # b\nc", "a")
	wordsAre(t, "#\na")
	wordsAre(t, "\n#\na", "\n")
}

// Of all bytes, two are blanks and one begins a remark.
func TestWo1WordsEachByte(t *testing.T) {
	for b, s := range eachByte() {
		switch b {
		case 9, 32:
			wordsAre(t, s)
			wordsAre(t, "a"+s+"b", "a", "b")
			wordsAre(t, s+"a"+s, "a")
		case '#':
			wordsAre(t, s)
			wordsAre(t, "a"+s+"b", "a")
			wordsAre(t, s+"a"+s)
		default:
			wordsAre(t, s, s)
			wordsAre(t, "a"+s+"b", "a"+s+"b")
			wordsAre(t, s+"a"+s, s+"a"+s)
			wordsAre(t, s+" "+s+"\t"+s+"#"+s, s, s, s)
		}
	}
}

// Signs that are blank, or begin a remark, elsewhere.
func TestWo1WordsOtherSpaces(t *testing.T) {
	for _, sign := range spaces() {
		wordsAre(t, sign, sign)
		wordsAre(t, "a"+sign+"b", "a"+sign+"b")
		wordsAre(t, sign+"a", sign+"a")
		wordsAre(t, "a"+sign, "a"+sign)
		wordsAre(t, " "+sign+" a", sign, "a")
	}
}

func TestWo1WordsShortLines(t *testing.T) {
	for _, line := range texts(7, "a", " ", "\t", "#", "\n") {
		wordsAre(t, line, plainWords(line)...)
	}
}

func TestWo1WordsOfAnyBytes(t *testing.T) {
	for size := range 600 {
		line := mixed(size)
		wordsAre(t, line, plainWords(line)...)
		without := strings.ReplaceAll(line, "#", "")
		wordsAre(t, without, plainWords(without)...)
	}
}

func TestWo1WordsLongLines(t *testing.T) {
	const many = 1 << 20
	for _, line := range []string{strings.Repeat(" ", many), strings.Repeat("a ", many), strings.Repeat("a", many), strings.Repeat(" ", many) + "a", "a" + strings.Repeat(" ", many) + "#", strings.Repeat("#", many), strings.ReplaceAll(mixed(many), "#", "")} {
		wordsAre(t, line, plainWords(line)...)
	}
}

// Wo1: Join and Text

func TestWo1JoinExamples(t *testing.T) {
	joinIs(t, "")
	joinIs(t, "", "")
	joinIs(t, "a", "a")
	joinIs(t, "a b", "a", "b")
	joinIs(t, "a b c", "a", "b", "c")
	joinIs(t, " ", "", "")
	joinIs(t, "  ", "", "", "")
	joinIs(t, "a ", "a", "")
	joinIs(t, " a", "", "a")
	joinIs(t, "a  b", "a", "", "b")
}

// Texts stay as they are, even those that are no words.
func TestWo1JoinOtherTexts(t *testing.T) {
	joinIs(t, "   ", " ", " ")
	joinIs(t, " a   b\t c", " a ", " b\t", "c")
	joinIs(t, "# a", "#", "a")
	joinIs(t, "a# b", "a#", "b")
	joinIs(t, "a\n b\n", "a\n", "b\n")
	joinIs(t, "\n", "\n")
	joinIs(t, "\xff \x00 é", "\xff", "\x00", "é")
}

func TestWo1TextExamples(t *testing.T) {
	textIs(t, "")
	textIs(t, "\n", "")
	textIs(t, "a\n", "a")
	textIs(t, "a\nb\n", "a", "b")
	textIs(t, "a\nb\nc\n", "a", "b", "c")
	textIs(t, "\n\n", "", "")
	textIs(t, "\na\n", "", "a")
	textIs(t, "a\n\n", "a", "")
	textIs(t, "a\n\nb\n", "a", "", "b")
}

func TestWo1TextOtherTexts(t *testing.T) {
	textIs(t, "\n\n", "\n")
	textIs(t, "a\n\n", "a\n")
	textIs(t, "a\nb\n", "a\nb")
	textIs(t, " \n\t\n", " ", "\t")
	textIs(t, "a # b\n#\n", "a # b", "#")
	textIs(t, "\r\n\xff\n\x00\n", "\r", "\xff", "\x00")
}

func TestWo1JoinAndTextOfShortLists(t *testing.T) {
	for _, l := range lists(5, "", "a", "bc", " ", "\n", "#") {
		line, text := "", ""
		for i, s := range l {
			if i > 0 {
				line += " "
			}
			line += s
			text += s + "\n"
		}
		joinIs(t, line, l...)
		textIs(t, text, l...)
	}
}

func TestWo1JoinAndTextOfLongLists(t *testing.T) {
	for _, many := range []int{1, 2, 1000, 1 << 20} {
		l := slices.Repeat([]string{"ab"}, many)
		joinIs(t, strings.Repeat("ab ", many)[:3*many-1], l...)
		textIs(t, strings.Repeat("ab\n", many), l...)
		empty := make([]string, many)
		joinIs(t, strings.Repeat(" ", many-1), empty...)
		textIs(t, strings.Repeat("\n", many), empty...)
	}
	long := strings.Repeat("a", 1<<20)
	joinIs(t, long+" "+long, long, long)
	textIs(t, long+"\n"+long+"\n", long, long)
}

// Wo2: Find

func TestWo2FindExamples(t *testing.T) {
	findIs(t, 0, true, "a", "a")
	findIs(t, 0, true, "a", "a", "b")
	findIs(t, 1, true, "b", "a", "b")
	findIs(t, 2, true, "c", "a", "b", "c")
	findIs(t, 0, true, "a", "a", "a")
	findIs(t, 1, true, "a", "b", "a", "a")
	findIs(t, 0, true, "a", "a", "b", "a")
	findIs(t, 1, true, "", "a", "", "b", "")
	findIs(t, 0, true, "", "")
}

func TestWo2FindNone(t *testing.T) {
	findIs(t, 0, false, "a")
	findIs(t, 0, false, "")
	findIs(t, 0, false, "a", "")
	findIs(t, 0, false, "", "a")
	findIs(t, 0, false, "c", "a", "b")
	findIs(t, 0, false, "a b", "a", "b")
	findIs(t, 0, false, "c", slices.Repeat([]string{"b"}, 1<<16)...)
}

// What is nearly the word is another one: as a part of it, with more, with blanks, or in other letters.
func TestWo2FindEqualTextsAlone(t *testing.T) {
	for _, other := range []string{"", "w", "wo", "wor", "ord", "words", "sword", " word", "word ", "word\n", "word\x00", "Word", "WORD", "word#", "drow", "w\u00f6rd", "word\xff"} {
		findIs(t, 0, false, "word", other)
		findIs(t, 0, false, other, "word")
		findIs(t, 1, true, "word", other, "word")
		findIs(t, 1, true, other, "word", other)
	}
	findIs(t, 1, true, "\u00e9", "e\u0301", "\u00e9")
	findIs(t, 2, true, "\xff", "\ufffd", "\xfe", "\xff")
}

func TestWo2FindInShortLists(t *testing.T) {
	words := []string{"", "a", "b", "ab", "A", " a"}
	for _, l := range lists(5, words...) {
		for _, word := range words {
			at, found := 0, false
			for i := len(l) - 1; i >= 0; i-- {
				if l[i] == word {
					at, found = i, true
				}
			}
			findIs(t, at, found, word, l...)
		}
	}
}

func TestWo2FindAtEachPlace(t *testing.T) {
	l := make([]string, 300)
	for at := range l {
		l[at] = strings.Repeat("a", at)
	}
	for at, word := range l {
		findIs(t, at, true, word, l...)
		findIs(t, at, true, word, append(slices.Clone(l), l...)...)
		findIs(t, 0, false, word+"b", l...)
	}
}

// Wo2: Cut

func TestWo2CutExamples(t *testing.T) {
	cutIs(t, "a=b", '=', "a", "b", true)
	cutIs(t, "key=value", '=', "key", "value", true)
	cutIs(t, "=", '=', "", "", true)
	cutIs(t, "=a", '=', "", "a", true)
	cutIs(t, "a=", '=', "a", "", true)
	cutIs(t, "a=b=c", '=', "a", "b=c", true)
	cutIs(t, "==", '=', "", "=", true)
	cutIs(t, "a==b", '=', "a", "=b", true)
	cutIs(t, "=a=", '=', "", "a=", true)
	cutIs(t, "a b = c", ' ', "a", "b = c", true)
	cutIs(t, "a\nb", '\n', "a", "b", true)
	cutIs(t, "# a", '#', "", " a", true)
	cutIs(t, " = ", '=', " ", " ", true)
}

func TestWo2CutNone(t *testing.T) {
	cutIs(t, "", '=', "", "", false)
	cutIs(t, "", 0, "", "", false)
	cutIs(t, "a", '=', "", "", false)
	cutIs(t, "ab", '=', "", "", false)
	cutIs(t, "a:b", '=', "", "", false)
	cutIs(t, "a＝b", '=', "", "", false)
	cutIs(t, "A", 'a', "", "", false)
	cutIs(t, strings.Repeat("a", 1<<16), '=', "", "", false)
}

// A sign is a byte, not a character: it may be a piece of one, and is none of the bytes of the character with its number.
func TestWo2CutEachByte(t *testing.T) {
	all := strings.Join(eachByte(), "")
	for b, s := range eachByte() {
		sign := byte(b)
		cutIs(t, all, sign, all[:b], all[b+1:], true)
		cutIs(t, s, sign, "", "", true)
		before, after, found := plainCut("(("+s+"))", sign)
		cutIs(t, "(("+s+"))", sign, before, after, found)
		cutIs(t, all[:b], sign, "", "", false)
		cutIs(t, all[b+1:], sign, "", "", false)
		for other := range 256 {
			if other != b {
				cutIs(t, string([]byte{byte(other), byte(other)}), sign, "", "", false)
			}
		}
	}
	cutIs(t, "aéb", 0xc3, "a", "\xa9b", true)
	cutIs(t, "aéb", 0xa9, "a\xc3", "b", true)
	cutIs(t, "aéb", 0xe9, "", "", false)
	cutIs(t, "a\xe9é", 0xe9, "a", "é", true)
	cutIs(t, "\ufffd", 0xfd, "", "", false)
	cutIs(t, "\ufffd\xfd", 0xff, "", "", false)
}

func TestWo2CutShortTexts(t *testing.T) {
	for _, s := range texts(7, "a", "=", " ", "\n", "\xff") {
		for _, sign := range []byte("=a \n\xff#\x00b") {
			before, after, found := plainCut(s, sign)
			cutIs(t, s, sign, before, after, found)
		}
	}
}

func TestWo2CutOfAnyBytes(t *testing.T) {
	for size := range 300 {
		s := mixed(size)
		for b := range 256 {
			before, after, found := plainCut(s, byte(b))
			cutIs(t, s, byte(b), before, after, found)
		}
	}
}

func TestWo2CutAtEachPlace(t *testing.T) {
	for size := range 200 {
		for at := range size {
			before, after := strings.Repeat("a", at), strings.Repeat("b", size-at-1)
			cutIs(t, before+"="+after, '=', before, after, true)
			cutIs(t, before+"="+after+"=", '=', before, after+"=", true)
		}
	}
}

// Wo3

func TestWo3LinesAreRecovered(t *testing.T) {
	for _, l := range lists(5, "", "a", " b\t", "# c", "\r", "\xff") {
		linesAre(t, Text(l...), l...)
	}
	for _, s := range eachByte() {
		if s != "\n" {
			linesAre(t, Text(s, "", s+s, "a"+s), s, "", s+s, "a"+s)
		}
	}
	for size := range 300 {
		l := plainLines(mixed(size))
		linesAre(t, Text(l...), l...)
	}
}

func TestWo3WordsAreRecovered(t *testing.T) {
	for _, l := range lists(5, "a", "bc", "\n", "d\ne", "\r", "\xff\x00") {
		wordsAre(t, Join(l...), l...)
	}
	for _, s := range eachByte() {
		if !strings.Contains(" \t#", s) {
			wordsAre(t, Join(s, s+s, "a"+s, s+"a"), s, s+s, "a"+s, s+"a")
		}
	}
	for size := range 300 {
		l := plainWords(mixed(size))
		wordsAre(t, Join(l...), l...)
	}
}

// Lines of words come back as they were, as long as the words have no byte 10.
func TestWo3LinesOfWordsAreRecovered(t *testing.T) {
	want := [][]string{{"a", "b=1", "c=-2,3"}, nil, {"d"}, {"e", "e"}}
	var lines []string
	for _, l := range want {
		lines = append(lines, Join(l...))
	}
	got := Lines(Text(lines...))
	if len(got) != len(want) {
		t.Fatalf("%d lines of %d", len(got), len(want))
	}
	for i, line := range got {
		wordsAre(t, line, want[i]...)
	}
}

// R3, in all calls that take or give a list

func TestWo1Wo2ListsAreKeptAsTheyAre(t *testing.T) {
	all := []string{"b", "", "a b", "#", "\n", "b", "behind", "the end"}
	want := slices.Clone(all)
	l := all[:6]
	Join(l...)
	Text(l...)
	Find("#", l...)
	Find("none", l...)
	if !slices.Equal(all, want) {
		t.Errorf("the list became %q", all)
	}
}

// A list that is answered is the caller's own, even behind its end.
func TestWo1ListsAreNew(t *testing.T) {
	for name, call := range map[string]func() []string{
		"Lines": func() []string { return Lines("a\nb\nc") },
		"Words": func() []string { return Words("a b c") },
	} {
		first, second := call(), call()
		first[0] = "x"
		_ = append(first[:1], "y", "z", "w")
		for _, l := range [][]string{second, call()} {
			if !slices.Equal(l, []string{"a", "b", "c"}) {
				t.Errorf("%s: %q", name, l)
			}
		}
	}
}

func TestWo1NilAndEmptyLists(t *testing.T) {
	for _, l := range [][]string{nil, {}} {
		joinIs(t, "", l...)
		textIs(t, "", l...)
		findIs(t, 0, false, "", l...)
	}
}
