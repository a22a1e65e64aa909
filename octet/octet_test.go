package octet

import (
	"encoding/binary"
	"math/big"
	"math/bits"
	"strings"
	"testing"

	"reeve/api"
)

// numbers are those from 0 on at which an encoding is likeliest to be wrong, in order: the first thousands, and those around each power of two.
func numbers() []int {
	var l []int
	for n := range 1 << 15 {
		l = append(l, n)
	}
	for bit := 15; bit < 63; bit++ {
		for by := -2; by <= 2; by++ {
			l = append(l, 1<<bit+by)
		}
	}
	return append(l, api.MaxInt-2, api.MaxInt-1, api.MaxInt, 0x0123456789abcdef, 0x7f00ff00ff00ff00)
}

// wrongSizes are outside 1 to 8.
func wrongSizes() []int {
	return []int{0, -1, -8, 9, 10, 16, 64, 256, 257, 1 << 32, 1<<32 + 1, api.MaxInt, api.MinInt}
}

// none are the cursors that behave like a cursor of no bytes.
func none() map[string]*Cursor {
	return map[string]*Cursor{"nil": nil, "zero": {}, "new": new(Cursor), "empty": New("")}
}

// short are some bytes of each length up to a greatest one, of few different values, all of their orders.
func short(most int, values string) []string {
	l := []string{""}
	from := 0
	for range most {
		to := len(l)
		for _, s := range l[from:to] {
			for i := range len(values) {
				l = append(l, s+values[i:i+1])
			}
		}
		from = to
	}
	return l
}

// plainVar is what the document says of the bytes in front, with a number of any size: the number, how many bytes it takes, and the error.
func plainVar(s string) (int, int, api.Errno) {
	many := 1
	for many <= len(s) && s[many-1] >= 128 {
		many++
	}
	if many > len(s) {
		return 0, 0, api.ErrShort
	}
	n := new(big.Int)
	for i := many - 1; i >= 0; i-- {
		n.Lsh(n, 7).Or(n, big.NewInt(int64(s[i]&127)))
	}
	if !n.IsInt64() || many != max(1, (n.BitLen()+6)/7) {
		return 0, 0, api.ErrForm
	}
	return int(n.Int64()), many, api.OK
}

func varIs(t *testing.T, c *Cursor, want int, e api.Errno, left int) {
	t.Helper()
	if n, got := c.Var(); n != want || got != e || c.Left() != left {
		t.Errorf("Var() = %d, %v with %d left; want %d, %v with %d left", n, got, c.Left(), want, e, left)
	}
}

func fixedIs(t *testing.T, c *Cursor, size int, want uint64, e api.Errno, left int) {
	t.Helper()
	if n, got := c.Fixed(size); n != want || got != e || c.Left() != left {
		t.Errorf("Fixed(%d) = %d, %v with %d left; want %d, %v with %d left", size, n, got, c.Left(), want, e, left)
	}
}

func textIs(t *testing.T, c *Cursor, most int, want string, e api.Errno, left int) {
	t.Helper()
	if s, got := c.Text(most); s != want || got != e || c.Left() != left {
		t.Errorf("Text(%d) = %q, %v with %d left; want %q, %v with %d left", most, s, got, c.Left(), want, e, left)
	}
}

// Oc1

func TestOc1FixedExamples(t *testing.T) {
	for _, c := range []struct {
		n    uint64
		size int
		want string
	}{
		{258, 2, "\x01\x02"}, {258, 1, "\x02"}, {258, 3, "\x00\x01\x02"}, {0, 1, "\x00"}, {0, 8, "\x00\x00\x00\x00\x00\x00\x00\x00"},
		{0x0123456789abcdef, 8, "\x01\x23\x45\x67\x89\xab\xcd\xef"}, {0x0123456789abcdef, 7, "\x23\x45\x67\x89\xab\xcd\xef"}, {0x0123456789abcdef, 4, "\x89\xab\xcd\xef"},
		{1<<64 - 1, 8, "\xff\xff\xff\xff\xff\xff\xff\xff"}, {1<<64 - 1, 1, "\xff"}, {1 << 63, 8, "\x80\x00\x00\x00\x00\x00\x00\x00"}, {1 << 63, 7, "\x00\x00\x00\x00\x00\x00\x00"},
		{256, 1, "\x00"}, {255, 1, "\xff"}, {api.MaxInt, 8, "\x7f\xff\xff\xff\xff\xff\xff\xff"},
	} {
		if got := Fixed(c.n, c.size); got != c.want {
			t.Errorf("Fixed(%d, %d) = %x; want %x", c.n, c.size, got, c.want)
		}
	}
}

func TestOc1FixedIsTheEndOfAllEight(t *testing.T) {
	for _, n := range numbers() {
		for _, n := range []uint64{uint64(n), ^uint64(n), bits.Reverse64(uint64(n))} {
			all := string(binary.BigEndian.AppendUint64(nil, n))
			for size := 1; size <= 8; size++ {
				if got := Fixed(n, size); got != all[8-size:] {
					t.Fatalf("Fixed(%d, %d) = %x; want %x", n, size, got, all[8-size:])
				}
			}
		}
	}
}

func TestOc1FixedWrongSize(t *testing.T) {
	for _, size := range wrongSizes() {
		for _, n := range []uint64{0, 7, 1<<64 - 1} {
			if got := Fixed(n, size); got != "" {
				t.Errorf("Fixed(%d, %d) = %x", n, size, got)
			}
		}
	}
}

func TestOc1VarExamples(t *testing.T) {
	for n, want := range map[int]string{
		0: "\x00", 1: "\x01", 127: "\x7f", 128: "\x80\x01", 129: "\x81\x01", 255: "\xff\x01", 256: "\x80\x02", 300: "\xac\x02",
		1<<14 - 1: "\xff\x7f", 1 << 14: "\x80\x80\x01", 1<<21 - 1: "\xff\xff\x7f", 1 << 21: "\x80\x80\x80\x01",
		1<<56 - 1: "\xff\xff\xff\xff\xff\xff\xff\x7f", 1 << 56: "\x80\x80\x80\x80\x80\x80\x80\x80\x01",
		api.MaxInt: "\xff\xff\xff\xff\xff\xff\xff\xff\x7f", api.MaxInt - 1: "\xfe\xff\xff\xff\xff\xff\xff\xff\x7f",
	} {
		if got := Var(n); got != want {
			t.Errorf("Var(%d) = %x; want %x", n, got, want)
		}
	}
}

func TestOc1VarGroups(t *testing.T) {
	for _, n := range numbers() {
		if got, want := Var(n), string(binary.AppendUvarint(nil, uint64(n))); got != want {
			t.Errorf("Var(%d) = %x; want %x", n, got, want)
		}
	}
}

func TestOc1VarNegative(t *testing.T) {
	for _, n := range []int{-1, -2, -127, -128, -300, -1 << 32, api.MinInt + 1, api.MinInt} {
		if got := Var(n); got != "" {
			t.Errorf("Var(%d) = %x", n, got)
		}
	}
}

func TestOc1Text(t *testing.T) {
	for s, want := range map[string]string{"": "\x00", "ab": "\x02ab", "\x00": "\x01\x00", "\xff\x80": "\x02\xff\x80", "\u00e9": "\x02\xc3\xa9"} {
		if got := Text(s); got != want {
			t.Errorf("Text(%q) = %q; want %q", s, got, want)
		}
	}
	for size, front := range map[int]string{127: "\x7f", 128: "\x80\x01", 300: "\xac\x02", 1<<14 - 1: "\xff\x7f", 1 << 14: "\x80\x80\x01", 70000: "\xf0\xa2\x04"} {
		s := strings.Repeat("ab\x80\xff\x00", size)[:size]
		if got := Text(s); got != front+s {
			t.Errorf("Text of %d bytes starts with %x; want %x", size, got[:4], front)
		}
	}
}

// Oc2

func TestOc2Left(t *testing.T) {
	for size := range 300 {
		if got := New(strings.Repeat("\x80", size)).Left(); got != size {
			t.Errorf("Left() of %d bytes = %d", size, got)
		}
	}
}

func TestOc2Examples(t *testing.T) {
	c := New("\xac\x02\x01\x02\x03abc\x00rest")
	varIs(t, c, 300, api.OK, 11)
	fixedIs(t, c, 2, 258, api.OK, 9)
	textIs(t, c, 3, "abc", api.OK, 5)
	textIs(t, c, 0, "", api.OK, 4)
	fixedIs(t, c, 4, 0x72657374, api.OK, 0)
	fixedIs(t, c, 1, 0, api.ErrShort, 0)
	varIs(t, c, 0, api.ErrShort, 0)
	textIs(t, c, 9, "", api.ErrShort, 0)
}

func TestOc2Fixed(t *testing.T) {
	bytes := "\xf1\x02\xf3\x04\xf5\x06\xf7\x08\xf9"
	for from := range len(bytes) + 1 {
		rest := bytes[from:]
		for size := 1; size <= 8; size++ {
			c := New(bytes)
			for range from {
				c.Fixed(1)
			}
			if len(rest) < size {
				fixedIs(t, c, size, 0, api.ErrShort, len(rest))
				continue
			}
			var eight [8]byte
			copy(eight[8-size:], rest)
			fixedIs(t, c, size, binary.BigEndian.Uint64(eight[:]), api.OK, len(rest)-size)
		}
	}
}

// The size is examined first: bytes that end too early don't hide that it is wrong.
func TestOc2FixedWrongSize(t *testing.T) {
	for _, size := range wrongSizes() {
		for _, s := range []string{"", "\x01", "\x01\x02\x03\x04\x05\x06\x07\x08", strings.Repeat("\x80", 300)} {
			c := New(s)
			fixedIs(t, c, size, 0, api.ErrArg, len(s))
			fixedIs(t, c, size, 0, api.ErrArg, len(s))
		}
	}
}

func TestOc2Var(t *testing.T) {
	high := func(many int) string { return strings.Repeat("\xff", many) }
	for _, c := range []struct {
		s    string
		want int
		e    api.Errno
		left int
	}{
		{"\x00", 0, api.OK, 0}, {"\x00\x00", 0, api.OK, 1}, {"\x7f\xff", 127, api.OK, 1}, {"\x80\x01", 128, api.OK, 0}, {"\xac\x02x", 300, api.OK, 1},
		{high(8) + "\x7f", api.MaxInt, api.OK, 0}, {high(8) + "\x7f\x00", api.MaxInt, api.OK, 1}, {"\xfe" + high(7) + "\x7f", api.MaxInt - 1, api.OK, 0},
		{"\x80\x80\x80\x80\x80\x80\x80\x80\x01", 1 << 56, api.OK, 0},
		// No byte without the bit 128 is left, be they so few or too many.
		{"", 0, api.ErrShort, 0}, {"\x80", 0, api.ErrShort, 1}, {high(8), 0, api.ErrShort, 8}, {high(9), 0, api.ErrShort, 9}, {high(10), 0, api.ErrShort, 10}, {high(1000), 0, api.ErrShort, 1000},
		// A group too many.
		{"\x80\x00", 0, api.ErrForm, 2}, {"\x80\x80\x00", 0, api.ErrForm, 3}, {"\xff\x00", 0, api.ErrForm, 2}, {"\xac\x82\x00x", 0, api.ErrForm, 4}, {high(8) + "\x00", 0, api.ErrForm, 9}, {strings.Repeat("\x80", 8) + "\x00", 0, api.ErrForm, 9},
		// The bytes of a number that is greater than MaxInt, as far as 64 bits go and beyond.
		{high(9) + "\x01", 0, api.ErrForm, 10}, {strings.Repeat("\x80", 9) + "\x01", 0, api.ErrForm, 10}, {high(9) + "\x7f", 0, api.ErrForm, 10}, {high(9) + "\x00", 0, api.ErrForm, 10}, {"\x85" + strings.Repeat("\x80", 8) + "\x00", 0, api.ErrForm, 10}, {"\x85" + strings.Repeat("\x80", 8) + "\x02", 0, api.ErrForm, 10},
		{high(1000) + "\x01", 0, api.ErrForm, 1001}, {strings.Repeat("\x80", 256) + "\x01", 0, api.ErrForm, 257}, {strings.Repeat("\x80", 1<<16) + "\x01", 0, api.ErrForm, 1<<16 + 1},
	} {
		x := New(c.s)
		varIs(t, x, c.want, c.e, c.left)
		if c.e != api.OK { // it stays where it is, and so tells the same again
			varIs(t, x, 0, c.e, c.left)
		}
	}
}

// All short bytes of few values, and all of two bytes, are read as the document says.
func TestOc2VarAllShort(t *testing.T) {
	l := short(6, "\x00\x01\x7f\x80\x81\xff")
	for i := range 1 << 16 {
		l = append(l, string([]byte{byte(i >> 8), byte(i)}))
	}
	for _, tail := range l[:300] {
		for many := 5; many < 12; many++ {
			l = append(l, strings.Repeat("\x80", many)+tail, strings.Repeat("\xff", many)+tail)
		}
	}
	for _, s := range l {
		want, size, e := plainVar(s)
		c := New(s)
		if n, got := c.Var(); n != want || got != e || c.Left() != len(s)-size {
			t.Fatalf("Var() of %x = %d, %v with %d left; want %d, %v after %d", s, n, got, c.Left(), want, e, size)
		}
	}
}

func TestOc2Text(t *testing.T) {
	long := strings.Repeat("ab\x80\xff\x00", 60)
	for _, c := range []struct {
		s    string
		most int
		want string
		e    api.Errno
		left int
	}{
		{"\x03abc", 3, "abc", api.OK, 0}, {"\x03abcd", 3, "abc", api.OK, 1}, {"\x03abc", 4, "abc", api.OK, 0}, {"\x03abc", api.MaxInt, "abc", api.OK, 0},
		{"\x00", 0, "", api.OK, 0}, {"\x00a", 0, "", api.OK, 1}, {"\x00", api.MaxInt, "", api.OK, 0}, {"\x02\xff\x80", 2, "\xff\x80", api.OK, 0},
		{"\xac\x02" + long, 300, long, api.OK, 0}, {"\xac\x02" + long + "x", 300, long, api.OK, 1},
		{"\x03abc", 2, "", api.ErrMany, 4}, {"\x03abc", 0, "", api.ErrMany, 4}, {"\x03abc", -1, "", api.ErrMany, 4}, {"\x00", -1, "", api.ErrMany, 1}, {"\x00", api.MinInt, "", api.ErrMany, 1}, {"\xac\x02" + long, 299, "", api.ErrMany, 302},
		{"\x03ab", 3, "", api.ErrShort, 3}, {"\x03", 3, "", api.ErrShort, 1}, {"\x01", api.MaxInt, "", api.ErrShort, 1}, {"\xac\x02" + long[1:], 300, "", api.ErrShort, 301},
		// The bytes of the length count as none of the text's.
		{"\x01", 1, "", api.ErrShort, 1}, {"\x80\x01" + long[:127], 128, "", api.ErrShort, 129}, {"\x80\x01" + long[:126], 128, "", api.ErrShort, 128},
		// The length is too great before the bytes are too few.
		{"\x03ab", 2, "", api.ErrMany, 3}, {"\x03", 0, "", api.ErrMany, 1},
		// The greatest lengths, where an end of the text is no number.
		{Var(api.MaxInt), api.MaxInt, "", api.ErrShort, 9}, {Var(api.MaxInt), api.MaxInt - 1, "", api.ErrMany, 9}, {Var(api.MaxInt-8) + "abcdefgh", api.MaxInt, "", api.ErrShort, 17}, {Var(1 << 32), api.MaxInt, "", api.ErrShort, 5},
		// The errors of Var come first.
		{"", 0, "", api.ErrShort, 0}, {"", -1, "", api.ErrShort, 0}, {"\x83", 0, "", api.ErrShort, 1}, {"\x83\x00abc", 2, "", api.ErrForm, 5}, {"\x83\x00abc", -1, "", api.ErrForm, 5}, {"\x83\x00abc", 9, "", api.ErrForm, 5}, {strings.Repeat("\xff", 9) + "\x01", api.MaxInt, "", api.ErrForm, 10},
	} {
		x := New(c.s)
		textIs(t, x, c.most, c.want, c.e, c.left)
		if c.e != api.OK {
			textIs(t, x, c.most, "", c.e, c.left)
		}
	}
}

// The greatest lengths, behind other bytes.
func TestOc2TextGreatLengthLater(t *testing.T) {
	c := New("ab\x01" + Var(api.MaxInt) + "cd")
	fixedIs(t, c, 2, 0x6162, api.OK, 12)
	varIs(t, c, 1, api.OK, 11)
	textIs(t, c, api.MaxInt, "", api.ErrShort, 11)
	varIs(t, c, api.MaxInt, api.OK, 2)
	fixedIs(t, c, 2, 0x6364, api.OK, 0)
}

// Behind each error, what comes next is read from where the cursor stood.
func TestOc2ErrorsDoNotMove(t *testing.T) {
	c := New("\x07\x85\x00\x05ab")
	fixedIs(t, c, 1, 7, api.OK, 5)
	for range 2 {
		varIs(t, c, 0, api.ErrForm, 5)
		textIs(t, c, 9, "", api.ErrForm, 5)
		fixedIs(t, c, 0, 0, api.ErrArg, 5)
		fixedIs(t, c, 9, 0, api.ErrArg, 5)
		fixedIs(t, c, 6, 0, api.ErrShort, 5)
	}
	fixedIs(t, c, 2, 0x8500, api.OK, 3)
	for range 2 {
		textIs(t, c, 4, "", api.ErrMany, 3)
		textIs(t, c, 5, "", api.ErrShort, 3)
	}
	varIs(t, c, 5, api.OK, 2)
	fixedIs(t, c, 2, 0x6162, api.OK, 0)
}

func TestOc2NoBytes(t *testing.T) {
	for name, c := range none() {
		t.Run(name, func(t *testing.T) {
			for range 2 {
				if c.Left() != 0 {
					t.Error("Left() =", c.Left())
				}
				varIs(t, c, 0, api.ErrShort, 0)
				for _, most := range []int{api.MinInt, -1, 0, 1, api.MaxInt} {
					textIs(t, c, most, "", api.ErrShort, 0)
				}
				for size := 1; size <= 8; size++ {
					fixedIs(t, c, size, 0, api.ErrShort, 0)
				}
				for _, size := range wrongSizes() {
					fixedIs(t, c, size, 0, api.ErrArg, 0)
				}
			}
		})
	}
}

// Cursors over the same bytes go their own ways.
func TestOc2CursorsApart(t *testing.T) {
	s := "\x01\x02\x03"
	a, b := New(s), New(s)
	varIs(t, a, 1, api.OK, 2)
	varIs(t, a, 2, api.OK, 1)
	varIs(t, b, 1, api.OK, 2)
	varIs(t, a, 3, api.OK, 0)
	varIs(t, b, 2, api.OK, 1)
}

// Oc3

func TestOc3NumbersComeBack(t *testing.T) {
	for _, n := range numbers() {
		for _, tail := range []string{"", "\x00", "\xff"} {
			varIs(t, New(Var(n)+tail), n, api.OK, len(tail))
			for size := 1; size <= 8; size++ {
				fixedIs(t, New(Fixed(uint64(n), size)+tail), size, uint64(n)&(1<<(8*size)-1), api.OK, len(tail))
			}
			fixedIs(t, New(Fixed(^uint64(n), 8)+tail), 8, ^uint64(n), api.OK, len(tail))
		}
	}
}

func TestOc3TextsComeBack(t *testing.T) {
	all := strings.Repeat("ab\x80\xff\x00", 1<<12)
	for size := range 1 << 12 {
		textIs(t, New(Text(all[:size])), size, all[:size], api.OK, 0)
	}
	for _, s := range short(4, "\x00\x01a\x80\xff") {
		textIs(t, New(Text(s)+"\x80"), len(s), s, api.OK, 1)
	}
	textIs(t, New(Text(all)+all), api.MaxInt, all, api.OK, len(all))
}

func TestOc3PartByPart(t *testing.T) {
	var b strings.Builder
	l := numbers()
	for i, n := range l {
		b.WriteString(Var(n) + Text(Var(n)) + Fixed(uint64(n), i%8+1))
	}
	c := New(b.String())
	left := c.Left()
	for i, n := range l {
		size := i%8 + 1
		own := len(Var(n))
		left -= own
		varIs(t, c, n, api.OK, left)
		left -= own + 1
		textIs(t, c, 9, Var(n), api.OK, left)
		left -= size
		fixedIs(t, c, size, uint64(n)&(1<<(8*size)-1), api.OK, left)
	}
	if left != 0 {
		t.Error(left, "bytes are left")
	}
}

// Bytes that are decoded are those that the value is encoded as: no others decode to it.
func TestOc3NoOtherBytes(t *testing.T) {
	for _, s := range short(7, "\x00\x01\x02\x7f\x80\xff") {
		c := New(s)
		if n, e := c.Var(); e == api.OK && Var(n)+s[len(s)-c.Left():] != s {
			t.Fatalf("%x decodes to %d, which is %x", s, n, Var(n))
		}
		c = New(s)
		if text, e := c.Text(len(s)); e == api.OK && Text(text)+s[len(s)-c.Left():] != s {
			t.Fatalf("%x decodes to %x, which is %x", s, text, Text(text))
		}
		for size := 1; size <= len(s); size++ {
			c = New(s)
			if n, e := c.Fixed(size); e != api.OK || Fixed(n, size) != s[:size] {
				t.Fatalf("%x decodes to %d, %v", s, n, e)
			}
		}
	}
}
