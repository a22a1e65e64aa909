package dec

import (
	"encoding/hex"
	"math/big"
	"slices"
	"strconv"
	"strings"
	"testing"

	"reeve/api"
)

// plainText is what the document says of the text of a number of any size: digit by digit, by division.
func plainText(n *big.Int) string {
	if n.Sign() == 0 {
		return "0"
	}
	text := ""
	left, ten, digit := new(big.Int).Abs(n), big.NewInt(10), new(big.Int)
	for left.Sign() > 0 {
		left.DivMod(left, ten, digit)
		text = string("0123456789"[digit.Int64()]) + text
	}
	if n.Sign() < 0 {
		return "-" + text
	}
	return text
}

// plainParse is what the document says of a text as a number: it looks for the number of any size whose text it is.
func plainParse(s string) (int, api.Errno) {
	z, ok := new(big.Int).SetString(s, 10)
	if !ok || plainText(z) != s || !z.IsInt64() {
		return 0, api.ErrForm
	}
	return int(z.Int64()), api.OK
}

// plainParseList is what the document says of a text as a list: part by part.
func plainParseList(s string, many int) ([]int, api.Errno) {
	var l []int
	for _, part := range strings.Split(s, ",") {
		n, e := plainParse(part)
		if e != api.OK {
			return nil, api.ErrForm
		}
		l = append(l, n)
	}
	if len(l) != many {
		return nil, api.ErrForm
	}
	return l, api.OK
}

// plainParseHex is what the document says of a text as bytes; the library reads A to F as well.
func plainParseHex(s string) (string, api.Errno) {
	b, err := hex.DecodeString(s)
	if err != nil || strings.ContainsAny(s, "ABCDEF") {
		return "", api.ErrForm
	}
	return string(b), api.OK
}

// numbers are those about each power of ten and of two, of both signs, those about the ends, and mixed ones of all lengths; the same in each run.
func numbers() []int {
	var l []int
	for power := 1; power < 1e18; power *= 10 {
		l = append(l, power, power*10)
	}
	for bit := range 63 {
		l = append(l, 1<<bit)
	}
	l = append(l, 0, api.MaxInt, api.MinInt, api.MaxId, api.MaxTick, api.MaxEpoch)
	for _, n := range slices.Clone(l) {
		l = append(l, n-2, n-1, n+1, n+2, -n-2, -n-1, -n, -n+1, -n+2)
	}
	x := uint64(1)
	for i := range 640 {
		x = x*6364136223846793005 + 1442695040888963407
		l = append(l, int(x)>>(i%64))
	}
	return l
}

// lists are of no number, of one, of several, and of many.
func lists() [][]int {
	l := [][]int{
		nil, {0, 0}, {1, 2, 3}, {1, -2, 3}, {-1, -1}, {0, 0, 0, 0}, {10, 1, 0, -1, -10}, {12, 3}, {1, 23}, {123, 0},
		{api.MinInt, api.MaxInt}, {api.MaxInt, api.MinInt, 0}, numbers(), make([]int, 1000),
	}
	for _, n := range numbers() {
		l = append(l, []int{n}, []int{n, 0}, []int{-7, n}, []int{n, n, n})
	}
	return l
}

// texts are all that have up to so many of some characters.
func texts(most int, characters ...string) []string {
	l := []string{""}
	from := 0
	for range most {
		end := len(l)
		for _, s := range l[from:end] {
			for _, next := range characters {
				l = append(l, s+next)
			}
		}
		from = end
	}
	return l
}

// strangers are characters that are no digits, though some of them are digits elsewhere, or have the lowest byte of one; pieces of characters too.
func strangers() []string {
	l := []string{"٣", "३", "０", "９", "ａ", "ｆ", "²", "½", "İ", "š", "ţ", "ü", "−", "–", "，", "\u0661", "\u0130", "\u0139", "\u0161", "\u2030", "\u3030", "\U0001d7d8", "\U00010030", "\U0010ffff", "\ufeff", "\u00a0", "\u2003", "\ufffd"}
	l = append(l, "\xc2", "\xd9", "\xa3", "\xe2\x82", "\xf0\x9d", "\xed\xa0\x80", "\xf4\x90\x80\x80", "\xc0\xb0", "\xc1\xa1")
	for b := range 256 {
		if !strings.Contains("0123456789", string(rune(b))) || b >= 128 {
			l = append(l, string([]byte{byte(b)}))
		}
	}
	return l
}

// mixed are bytes of all values, the same in each run.
func mixed(many int) string {
	b := make([]byte, many)
	x := uint64(1)
	for i := range b {
		x = x*6364136223846793005 + 1442695040888963407
		b[i] = byte(x >> 56)
	}
	return string(b)
}

func parseIs(t *testing.T, s string, want int, e api.Errno) {
	t.Helper()
	if n, got := Parse(s); n != want || got != e {
		t.Fatalf("Parse(%.60q) = %d, %v; want %d, %v", s, n, got, want, e)
	}
}

func parseListIs(t *testing.T, s string, many int, want []int, e api.Errno) {
	t.Helper()
	if l, got := ParseList(s, many); !slices.Equal(l, want) || got != e {
		t.Fatalf("ParseList(%.60q, %d) = %.60v, %v; want %.60v, %v", s, many, l, got, want, e)
	}
}

func parseHexIs(t *testing.T, s, want string, e api.Errno) {
	t.Helper()
	if b, got := ParseHex(s); b != want || got != e {
		t.Fatalf("ParseHex(%.60q) = %.60q, %v; want %.60q, %v", s, b, got, want, e)
	}
}

// De1

func TestDe1TextExamples(t *testing.T) {
	for n, want := range map[int]string{
		0: "0", 1: "1", 7: "7", 9: "9", 10: "10", 11: "11", 99: "99", 100: "100", 101: "101", 1000: "1000", 1234567890: "1234567890", 9876543210: "9876543210",
		-1: "-1", -7: "-7", -9: "-9", -10: "-10", -99: "-99", -100: "-100", -1234567890: "-1234567890",
		api.MaxInt: "9223372036854775807", api.MaxInt - 1: "9223372036854775806", api.MinInt: "-9223372036854775808", api.MinInt + 1: "-9223372036854775807",
		1e18: "1000000000000000000", -1e18: "-1000000000000000000",
	} {
		if got := Text(n); got != want {
			t.Errorf("Text(%d) = %q; want %q", n, got, want)
		}
		parseIs(t, want, n, api.OK)
	}
}

func TestDe1TextOfNumbers(t *testing.T) {
	for _, n := range numbers() {
		if got, want := Text(n), plainText(big.NewInt(int64(n))); got != want {
			t.Errorf("Text(%d) = %q; want %q", n, got, want)
		}
	}
}

func TestDe1ParseOfNumbers(t *testing.T) {
	for _, n := range numbers() {
		parseIs(t, plainText(big.NewInt(int64(n))), n, api.OK)
	}
	for n := -20000; n <= 20000; n++ {
		parseIs(t, plainText(big.NewInt(int64(n))), n, api.OK)
	}
}

// Example 1, and other texts of no number.
func TestDe1ParseErrors(t *testing.T) {
	for _, s := range []string{
		"", "-", "--", "+", "-0", "+0", "+1", "+-1", "-+1", "--1", "---1", "1-", "-1-", "1-1", "0-", "0-1", "-00", "00", "000", "01", "001", "-01", "-001", "007", "-007", "010", "0x1", "0b1", "0o1",
		" ", " 1", "1 ", "1 2", " -1", "- 1", "-1 ", "\t1", "1\n", "\n1", "1\r", "1\x00", "\x001", "\x00", "\x01", "\v1", "\f1",
		"1_000", "1,0", ",", "1,", ",1", "1.0", "1.", ".1", "1e3", "1E3", "0.", "a", "1a", "a1", "f", "inf", "NaN", "/", ":", "1/", "1:", "/1", ":1", "%", "1%", "$1",
	} {
		parseIs(t, s, 0, api.ErrForm)
	}
}

// Each number beyond the ends, though its lowest 64 bits are those of one, or of none.
func TestDe1ParseBeyondTheEnds(t *testing.T) {
	one := big.NewInt(1)
	for _, bits := range []uint{63, 64, 65, 66, 70, 127, 128, 129, 192, 1000} {
		power := new(big.Int).Lsh(one, bits)
		for by := range int64(300) {
			for _, z := range []*big.Int{new(big.Int).Add(power, big.NewInt(by)), new(big.Int).Sub(power, big.NewInt(by))} {
				if z.IsInt64() {
					continue
				}
				parseIs(t, plainText(z), 0, api.ErrForm)
				if z.Neg(z); !z.IsInt64() {
					parseIs(t, plainText(z), 0, api.ErrForm)
				}
			}
		}
	}
	for _, s := range []string{"9223372036854775808", "-9223372036854775809", "9223372036854775810", "9223372036854775817", "9999999999999999999", "10000000000000000000", "-9999999999999999999", "18446744073709551616", "-18446744073709551616", "92233720368547758070", "-92233720368547758080"} {
		parseIs(t, s, 0, api.ErrForm)
	}
}

// A number with more ahead of its text, or behind it, than it may have.
func TestDe1ParseWithMoreThanATextHas(t *testing.T) {
	for _, n := range numbers() {
		s := plainText(big.NewInt(int64(n)))
		digits := strings.TrimPrefix(s, "-")
		for _, wrong := range []string{"0" + s, "+" + s, " " + s, s + " ", s + "-", s + ".", s + ",", s + "\x00", s + "\n", "-0" + digits, "--" + digits, "+" + digits, "- " + digits, "0-" + digits, "-+" + digits} {
			parseIs(t, wrong, 0, api.ErrForm)
		}
		for _, other := range []string{"-" + s, s + "0", "1" + s, s + s} {
			want, e := plainParse(other)
			parseIs(t, other, want, e)
		}
	}
}

func TestDe1ParseLongTexts(t *testing.T) {
	for size := 20; size < 2000; size += 7 {
		for _, s := range []string{strings.Repeat("0", size), strings.Repeat("0", size) + "1", "1" + strings.Repeat("0", size), strings.Repeat("9", size), strings.Repeat("-", size), strings.Repeat("-", size) + "1", strings.Repeat(" ", size) + "1"} {
			parseIs(t, s, 0, api.ErrForm)
			parseIs(t, "-"+s, 0, api.ErrForm)
		}
	}
	parseIs(t, strings.Repeat("1", 1<<20), 0, api.ErrForm)
	parseIs(t, strings.Repeat("0", 1<<20), 0, api.ErrForm)
}

// Other characters, of one byte or of more, alone or beside digits.
func TestDe1ParseOtherCharacters(t *testing.T) {
	for _, c := range strangers() {
		for _, s := range []string{c, c + "1", "1" + c, "1" + c + "1", "-" + c, "0" + c, c + "0", "-1" + c, c + c} {
			want, e := plainParse(s)
			if c != "-" && e == api.OK {
				t.Fatalf("the model takes %q", s)
			}
			parseIs(t, s, want, e)
		}
	}
}

// All characters there are, of which ten are digits.
func TestDe1ParseEachCharacter(t *testing.T) {
	for c := rune(0); c <= 0x110000; c++ {
		want, e := 0, api.ErrForm
		if c >= '0' && c <= '9' {
			want, e = int(c-'0'), api.OK
		}
		parseIs(t, string(c), want, e)
	}
}

func TestDe1ParseShortTexts(t *testing.T) {
	for _, s := range texts(6, "0", "1", "9", "-", "+", " ", "a") {
		want, e := plainParse(s)
		parseIs(t, s, want, e)
	}
	for _, s := range texts(3, "0", "1", "2", "3", "4", "5", "6", "7", "8", "9", "-", "+", " ", "/", ":", "_", ",", ".", "\x00", "\xff", "é", "３") {
		want, e := plainParse(s)
		parseIs(t, s, want, e)
	}
}

func TestDe1ListExamples(t *testing.T) {
	for _, c := range []struct {
		l    []int
		want string
	}{
		{nil, ""}, {[]int{}, ""}, {[]int{0}, "0"}, {[]int{5}, "5"}, {[]int{-5}, "-5"}, {[]int{0, 0}, "0,0"}, {[]int{1, -2, 3}, "1,-2,3"}, {[]int{-1, -10, 0, 100}, "-1,-10,0,100"},
		{[]int{api.MaxInt, api.MinInt}, "9223372036854775807,-9223372036854775808"},
	} {
		if got := List(c.l...); got != c.want {
			t.Errorf("List(%v) = %q; want %q", c.l, got, c.want)
		}
	}
	if List() != "" {
		t.Errorf("List() = %q", List())
	}
}

func TestDe1ListOfNumbers(t *testing.T) {
	for _, l := range lists() {
		var parts []string
		for _, n := range l {
			parts = append(parts, plainText(big.NewInt(int64(n))))
		}
		if got, want := List(l...), strings.Join(parts, ","); got != want {
			t.Errorf("List(%.60v) = %.60q; want %.60q", l, got, want)
		}
	}
}

func TestDe1ListKeepsItsList(t *testing.T) {
	l := []int{3, api.MinInt, -4}
	List(l...)
	if !slices.Equal(l, []int{3, api.MinInt, -4}) {
		t.Error("List changed its list:", l)
	}
}

// A list is read with as many as there are, and with no other number of them.
func TestDe1ParseListMany(t *testing.T) {
	for _, l := range lists() {
		s := List(l...)
		for _, many := range []int{api.MinInt, api.MinInt + 1, -len(l), -1, 0, 1, 2, 3, 4, len(l) - 1, len(l), len(l) + 1, 1 << 31, 1 << 32, 1<<32 + len(l), api.MinInt + len(l), api.MaxInt - 1, api.MaxInt} {
			if many == len(l) && many > 0 {
				parseListIs(t, s, many, l, api.OK)
			} else {
				parseListIs(t, s, many, nil, api.ErrForm)
			}
		}
	}
}

// The list of no number is read as none, though it is a List.
func TestDe1ParseListOfNone(t *testing.T) {
	for many := -3; many <= 3; many++ {
		parseListIs(t, "", many, nil, api.ErrForm)
	}
}

// Texts of no list, whatever many is: among them are those whose parts are as many.
func TestDe1ParseListErrors(t *testing.T) {
	for _, s := range []string{
		",", ",,", ",,,", "1,", ",1", "1,,2", ",1,2", "1,2,", "1,2,,", ",,1", "1,-", "-,1", "1,-0", "-0,1", "1,00", "01,1", "1, 2", "1 ,2", " 1,2", "1,2 ", "1,+2", "+1,2",
		"1;2", "1 2", "1.2", "1,2;3", "1，2", "1,a", "a,1", "a", "a,b", "1,9223372036854775808", "-9223372036854775809,1", "18446744073709551617,2", "1,2\n", "1,2\x00", "1,\xff", "\xff,1", "１,２", "1,２", "[1,2]", "1,2,3,x",
	} {
		for many := -1; many <= 6; many++ {
			parseListIs(t, s, many, nil, api.ErrForm)
		}
	}
}

func TestDe1ParseListShortTexts(t *testing.T) {
	for _, s := range texts(7, "0", "1", "-", ",") {
		for many := -1; many <= 8; many++ {
			want, e := plainParseList(s, many)
			parseListIs(t, s, many, want, e)
		}
	}
}

// A list of right numbers, with each of its parts made wrong in turn.
func TestDe1ParseListOneWrongPart(t *testing.T) {
	for _, wrong := range []string{"", "-", "-0", "01", "+1", " 1", "1 ", "x", "é", "9223372036854775808", "1,1"} {
		for size := 1; size <= 6; size++ {
			for at := range size {
				parts := strings.Split(List(make([]int, size)...), ",")
				parts[at] = wrong
				parseListIs(t, strings.Join(parts, ","), size, nil, api.ErrForm)
			}
		}
	}
}

// Commas alone are no list, however many there are, and however many are asked for.
func TestDe1ParseListOfCommas(t *testing.T) {
	s := strings.Repeat(",", 1<<20)
	for _, many := range []int{0, 1, 1<<20 - 1, 1 << 20, 1<<20 + 1, 1<<20 + 2, api.MaxInt} {
		parseListIs(t, s, many, nil, api.ErrForm)
	}
}

// A list that is answered is the caller's own.
func TestDe1ParseListIsNew(t *testing.T) {
	first, _ := ParseList("1,2,3", 3)
	second, _ := ParseList("1,2,3", 3)
	first[0] = 9
	_ = append(first[:1], 8)
	if !slices.Equal(second, []int{1, 2, 3}) {
		t.Error(second)
	}
	parseListIs(t, "1,2,3", 3, []int{1, 2, 3}, api.OK)
}

// De2

// Example 1 and others.
func TestDe2HexExamples(t *testing.T) {
	for s, want := range map[string]string{
		"": "", "az": "617a", "\x00": "00", "\xff": "ff", "\x00\xff": "00ff", "\x0f\xf0": "0ff0", "\x01\x23\x45\x67\x89\xab\xcd\xef": "0123456789abcdef", "\xfe\xdc\xba": "fedcba",
		"\x00\x00": "0000", "é": "c3a9", "\n": "0a", "0": "30", "-": "2d", "\xa0\x0a": "a00a",
	} {
		if got := Hex(s); got != want {
			t.Errorf("Hex(%q) = %q; want %q", s, got, want)
		}
		parseHexIs(t, want, s, api.OK)
	}
}

func TestDe2HexOfAllBytes(t *testing.T) {
	all := ""
	for n := range 256 {
		s := string([]byte{byte(n)})
		want := string("0123456789abcdef"[n/16]) + string("0123456789abcdef"[n%16])
		if got := Hex(s); got != want {
			t.Errorf("Hex(%x) = %q; want %q", s, got, want)
		}
		parseHexIs(t, want, s, api.OK)
		all += s
	}
	if got := Hex(all); got != hex.EncodeToString([]byte(all)) {
		t.Errorf("Hex of all bytes = %q", got)
	}
	parseHexIs(t, hex.EncodeToString([]byte(all)), all, api.OK)
}

func TestDe2HexOfAnyBytes(t *testing.T) {
	for _, size := range []int{1, 2, 3, 7, 8, 9, 63, 64, 65, 200, 4095, 1 << 16, 1<<20 + 1} {
		s := mixed(size)
		want := hex.EncodeToString([]byte(s))
		if got := Hex(s); got != want {
			t.Errorf("Hex of %d bytes = %.60q; want %.60q", size, got, want)
		}
		parseHexIs(t, want, s, api.OK)
	}
}

// All texts of up to two bytes: 256 of two are texts of a byte.
func TestDe2ParseHexAllPairs(t *testing.T) {
	parseHexIs(t, "", "", api.OK)
	right := 0
	for a := range 256 {
		parseHexIs(t, string([]byte{byte(a)}), "", api.ErrForm)
		for b := range 256 {
			s := string([]byte{byte(a), byte(b)})
			want, e := plainParseHex(s)
			parseHexIs(t, s, want, e)
			if e == api.OK {
				right++
			}
		}
	}
	if right != 256 {
		t.Errorf("the model takes %d pairs", right)
	}
}

func TestDe2ParseHexShortTexts(t *testing.T) {
	for _, s := range texts(5, "0", "1", "9", "a", "f", "A", "g", " ", "\xff", "é") {
		want, e := plainParseHex(s)
		parseHexIs(t, s, want, e)
	}
}

func TestDe2ParseHexOddLengths(t *testing.T) {
	for size := 1; size < 600; size += 2 {
		for _, sign := range []string{"0", "a", "f", "A", "x"} {
			parseHexIs(t, strings.Repeat(sign, size), "", api.ErrForm)
		}
	}
	parseHexIs(t, Hex(mixed(1000))[1:], "", api.ErrForm)
}

// Signs that others take in hexadecimal texts.
func TestDe2ParseHexErrors(t *testing.T) {
	for _, s := range []string{
		"A0", "0A", "AA", "B0", "0B", "C0", "0C", "D0", "0D", "E0", "0E", "F0", "0F", "FF", "fF", "Ff", "00FF", "FF00", "00fF", "ABCDEF", "abcdeF",
		"g0", "0g", "G0", "`0", "0`", "/0", "0/", ":0", "0:", "@0", "0@", "x0", "0x", "0x00", "00h ", "  ", " 0", "0 ", "00 ", "00 0", "00 00 ", "0\n", "\n0", "\t0", "\x000", "0\x00", "-1", "+1", "--", "-0", "-a", "+f", "a-", "0.", "1e+1", "0_00", "00,0",
	} {
		parseHexIs(t, s, "", api.ErrForm)
	}
}

// Each sign of a right text made wrong in turn: what is right ahead of it isn't told.
func TestDe2ParseHexOneWrongSign(t *testing.T) {
	good := Hex("reeve\x00\xff\x7f\x80")
	for at := range len(good) {
		for b := range 256 {
			s := good[:at] + string([]byte{byte(b)}) + good[at+1:]
			want, e := plainParseHex(s)
			parseHexIs(t, s, want, e)
		}
		parseHexIs(t, good[:at]+" "+good[at:], "", api.ErrForm)
		parseHexIs(t, good[:at]+"é"+good[at:], "", api.ErrForm)
		parseHexIs(t, good[:at]+"０"+good[at:], "", api.ErrForm)
	}
}

// All characters there are, with as many signs behind them as make their length even, and as many as cut them in two.
func TestDe2ParseHexEachCharacter(t *testing.T) {
	for c := rune(0); c <= 0x110000; c++ {
		for _, s := range []string{string(c) + "0", "0" + string(c), "0" + string(c) + "a", string(c) + "f0", string(c)} {
			want, e := plainParseHex(s)
			parseHexIs(t, s, want, e)
		}
	}
}

// De3

func TestDe3NumbersAreReadAgain(t *testing.T) {
	for _, n := range numbers() {
		parseIs(t, Text(n), n, api.OK)
		parseListIs(t, Text(n), 1, []int{n}, api.OK)
	}
	for n := -20000; n <= 20000; n++ {
		parseIs(t, Text(n), n, api.OK)
	}
}

func TestDe3ListsAreReadAgain(t *testing.T) {
	for _, l := range lists() {
		if len(l) > 0 {
			parseListIs(t, List(l...), len(l), l, api.OK)
		}
	}
}

func TestDe3BytesAreReadAgain(t *testing.T) {
	for size := range 600 {
		s := mixed(size)
		parseHexIs(t, Hex(s), s, api.OK)
	}
	for a := range 256 {
		for b := range 256 {
			s := string([]byte{byte(a), byte(b)})
			parseHexIs(t, Hex(s), s, api.OK)
		}
	}
}

// Of all short texts, each that is read at all is the one that is written.
func TestDe3NoOtherTextOfANumber(t *testing.T) {
	for _, s := range texts(6, "0", "1", "8", "-", "+", " ", "x") {
		if n, e := Parse(s); e == api.OK && Text(n) != s {
			t.Errorf("Parse(%q) = %d, whose Text is %q", s, n, Text(n))
		}
	}
}

func TestDe3NoOtherTextOfAList(t *testing.T) {
	for _, s := range texts(6, "0", "2", "-", ",", "+", " ") {
		for many := range 9 {
			if l, e := ParseList(s, many); e == api.OK && (List(l...) != s || len(l) != many) {
				t.Errorf("ParseList(%q, %d) = %v, whose List is %q", s, many, l, List(l...))
			}
		}
	}
}

func TestDe3NoOtherTextOfBytes(t *testing.T) {
	for _, s := range texts(4, "0", "7", "b", "B", "c", "C", "x", " ", "-", "é", "\xff") {
		if b, e := ParseHex(s); e == api.OK && Hex(b) != s {
			t.Errorf("ParseHex(%q) = %q, whose Hex is %q", s, b, Hex(b))
		}
	}
}

// Different values have different texts, and each text is read as one value.
func TestDe3NoTextTwice(t *testing.T) {
	of := map[string]int{}
	for _, n := range numbers() {
		if other, ok := of[Text(n)]; ok && other != n {
			t.Errorf("%d and %d have the text %q", n, other, Text(n))
		}
		of[Text(n)] = n
	}
	seen := map[string]string{}
	for _, l := range lists() {
		s := List(l...)
		key := ""
		for _, n := range l {
			key += strconv.FormatInt(int64(n), 36) + ";"
		}
		if other, ok := seen[s]; ok && other != key {
			t.Errorf("two lists have the text %.60q", s)
		}
		seen[s] = key
	}
}
