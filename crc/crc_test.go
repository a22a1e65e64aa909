package crc

import (
	"hash/crc32"
	"math/bits"
	"strconv"
	"strings"
	"sync"
	"testing"

	"reeve/api"
)

// plain is what the document says of a register and a text, bit by bit, without any entries.
func plain(r uint32, s string) uint32 {
	for i := range len(s) {
		r = r&0xffffff00 | (r&0xff ^ uint32(s[i]))
		r = plainHalved(r)
	}
	return r ^ 0xffffffff
}

func plainHalved(r uint32) uint32 {
	for range 8 {
		if r%2 == 1 {
			r = r/2 ^ 0xedb88320
		} else {
			r = r / 2
		}
	}
	return r
}

// mixed are bytes of all values, the same in each run.
func mixed(many int) string {
	b := make([]byte, many)
	x := uint64(1)
	for i := range b {
		x = x*6364136223846793005 + 1442695040888963407
		b[i] = byte(x >> 56)
	}
	return string(b)
}

// sums are registers and sums at which a slip is likeliest to show: the ends, single bits and their inverses, and some of all kinds.
func sums() []uint32 {
	l := []uint32{0, 1, 7, 0xff, 0x100, 0xffffff00, 0xffffffff, 0xfffffffe, 0xedb88320, 0x12477cdf, 0xcbf43926}
	for bit := range 32 {
		l = append(l, 1<<bit, ^uint32(1<<bit))
	}
	x := uint32(1)
	for range 64 {
		x = x*1664525 + 1013904223
		l = append(l, x)
	}
	return l
}

// wrongEntries are no numbers from 0 to 255, some with lowest bytes that are.
func wrongEntries() []int {
	return []int{-1, -2, -255, -256, -257, 256, 257, 511, 512, 1 << 16, 1 << 32, 1<<32 + 1, -1 << 32, api.MaxInt, api.MaxInt - 254, api.MinInt, api.MinInt + 1}
}

// fresh are tables that were asked nothing yet.
func fresh() map[string]*Table {
	var zero Table
	return map[string]*Table{"New": New(), "new": new(Table), "literal": {}, "variable": &zero}
}

// firsts are the calls that make a table reckon its entries, whatever they are given.
func firsts() map[string]func(*Table) {
	l := map[string]func(*Table){
		"Sum of no bytes":      func(t *Table) { t.Sum("") },
		"Sum":                  func(t *Table) { t.Sum("a") },
		"Sum of zeros":         func(t *Table) { t.Sum("\x00\x00") },
		"More of nothing":      func(t *Table) { t.More(0, "") },
		"More of no bytes":     func(t *Table) { t.More(7, "") },
		"More":                 func(t *Table) { t.More(0xe8b7be43, "b") },
		"More from no bytes":   func(t *Table) { t.More(0, "b") },
		"More from the inside": func(t *Table) { t.More(0xffffffff, "b") },
	}
	for _, n := range append(wrongEntries(), 0, 1, 128, 255) {
		l["Entry of "+strconv.Itoa(n)] = func(t *Table) { t.Entry(n) }
	}
	return l
}

func sumIs(t *testing.T, name string, got, want uint32) {
	t.Helper()
	if got != want {
		t.Fatalf("%s = %08x; want %08x", name, got, want)
	}
}

// Cr1

func TestCr1New(t *testing.T) {
	if New() == nil {
		t.Fatal("New() is nil")
	}
	if New() == New() {
		t.Error("New() gives one table twice")
	}
}

// Example 1, and other sums that are known from elsewhere.
func TestCr1Examples(t *testing.T) {
	x := New()
	for s, want := range map[string]uint32{
		"": 0, "123456789": 0xcbf43926, "a": 0xe8b7be43, "abc": 0x352441c2,
		"\x00": 0xd202ef8d, "\xff": 0xff000000, "\x00\x00\x00\x00": 0x2144df1c, "\xff\xff\xff\xff": 0xffffffff,
		"The quick brown fox jumps over the lazy dog": 0x414fa339,
	} {
		sumIs(t, "Sum("+strconv.Quote(s)+")", x.Sum(s), want)
	}
}

// All texts of up to two bytes.
func TestCr1SumShort(t *testing.T) {
	x := New()
	for i := range 1 << 8 {
		one := string([]byte{byte(i)})
		sumIs(t, "Sum("+strconv.Quote(one)+")", x.Sum(one), plain(0xffffffff, one))
		for j := range 1 << 8 {
			two := one + string([]byte{byte(j)})
			sumIs(t, "Sum("+strconv.Quote(two)+")", x.Sum(two), plain(0xffffffff, two))
		}
	}
}

// Texts of all lengths up to some hundreds, and a long one: mixed bytes, and the same byte again and again.
func TestCr1SumLong(t *testing.T) {
	x := New()
	all := mixed(600)
	for size := range len(all) + 1 {
		for _, s := range []string{all[:size], strings.Repeat("\x00", size), strings.Repeat("\xff", size), strings.Repeat("\x80", size)} {
			sumIs(t, "Sum of "+strconv.Itoa(size), x.Sum(s), plain(0xffffffff, s))
			sumIs(t, "Sum of "+strconv.Itoa(size), x.Sum(s), crc32.ChecksumIEEE([]byte(s)))
		}
	}
	long := mixed(1 << 20)
	sumIs(t, "Sum of a long text", x.Sum(long), crc32.ChecksumIEEE([]byte(long)))
}

// A text is bytes, be they characters or not.
func TestCr1SumOfBytes(t *testing.T) {
	x := New()
	for _, s := range []string{"\u00e9", "\u65e5\u672c", "\xe9", "\xc3", "\xf0\x9f\x98\x80", "\xed\xa0\x80", "\r\n", "\n", "a\x00b"} {
		sumIs(t, "Sum("+strconv.Quote(s)+")", x.Sum(s), plain(0xffffffff, s))
	}
}

// From any sum, be it one of a known text or not, the register is that sum inverted.
func TestCr1MoreFromAny(t *testing.T) {
	x := New()
	all := mixed(300)
	for _, sum := range sums() {
		for _, size := range []int{0, 1, 2, 3, 4, 5, 8, 9, 300} {
			name := "More from " + strconv.FormatUint(uint64(sum), 16) + " of " + strconv.Itoa(size)
			sumIs(t, name, x.More(sum, all[:size]), plain(^sum, all[:size]))
			sumIs(t, name, x.More(sum, all[:size]), crc32.Update(sum, crc32.IEEETable, []byte(all[:size])))
		}
		sumIs(t, "More of no bytes", x.More(sum, ""), sum)
	}
}

// The sum of no bytes is a sum like others: from it, More is Sum.
func TestCr1MoreFromNoBytes(t *testing.T) {
	x := New()
	all := mixed(300)
	for size := range len(all) + 1 {
		sumIs(t, "More(Sum of no bytes)", x.More(x.Sum(""), all[:size]), x.Sum(all[:size]))
		sumIs(t, "More(0)", x.More(0, all[:size]), plain(0xffffffff, all[:size]))
	}
}

func TestCr1Entry(t *testing.T) {
	for name, x := range fresh() {
		for n := range 1 << 8 {
			sumIs(t, name+": Entry("+strconv.Itoa(n)+")", x.Entry(n), plainHalved(uint32(n)))
			sumIs(t, name+": Entry("+strconv.Itoa(n)+")", x.Entry(n), crc32.IEEETable[n])
		}
	}
	x := New()
	for n, want := range map[int]uint32{0: 0, 1: 0x77073096, 2: 0xee0e612c, 128: 0xedb88320, 255: 0x2d02ef8d} {
		sumIs(t, "Entry("+strconv.Itoa(n)+")", x.Entry(n), want)
	}
}

// Each wrong number comes first once, and once behind other calls.
func TestCr1EntryWrong(t *testing.T) {
	for _, n := range wrongEntries() {
		for name, x := range fresh() {
			sumIs(t, name+": first Entry("+strconv.Itoa(n)+")", x.Entry(n), 0)
			x.Sum("abc")
			x.Entry(255)
			sumIs(t, name+": Entry("+strconv.Itoa(n)+")", x.Entry(n), 0)
			sumIs(t, name+": Entry(1)", x.Entry(1), 0x77073096)
		}
	}
}

// Whichever call comes first makes the entries, and none makes them again.
func TestCr1Made(t *testing.T) {
	for first, call := range firsts() {
		for name, x := range fresh() {
			for range 3 { // Made itself makes nothing
				if n := x.Made(); n != 0 {
					t.Fatalf("%s: Made() = %d ahead of all calls", name, n)
				}
			}
			call(x)
			if n := x.Made(); n != 1 {
				t.Fatalf("%s: Made() = %d behind %s", name, n, first)
			}
			for next, again := range firsts() {
				again(x)
				if n := x.Made(); n != 1 {
					t.Fatalf("%s: Made() = %d behind %s and %s", name, n, first, next)
				}
			}
		}
	}
}

// A table's count is its own: what another table was asked does not show.
func TestCr1TablesApart(t *testing.T) {
	a, b := New(), New()
	a.Sum("a")
	if a.Made() != 1 || b.Made() != 0 {
		t.Error("Made() =", a.Made(), b.Made())
	}
	sumIs(t, "Sum of the other", b.Sum("123456789"), 0xcbf43926)
	if a.Made() != 1 || b.Made() != 1 || New().Made() != 0 {
		t.Error("Made() =", a.Made(), b.Made(), New().Made())
	}
}

// Whatever call comes first, those behind it answer the same.
func TestCr1WhateverFirst(t *testing.T) {
	for first, call := range firsts() {
		for name, x := range fresh() {
			call(x)
			for range 2 {
				sumIs(t, name+": Sum behind "+first, x.Sum("123456789"), 0xcbf43926)
				sumIs(t, name+": More behind "+first, x.More(0xe8b7be43, "bc"), 0x352441c2)
				sumIs(t, name+": Entry behind "+first, x.Entry(255), 0x2d02ef8d)
			}
		}
	}
}

func TestCr1Nil(t *testing.T) {
	var x *Table
	for range 2 {
		if n := x.Made(); n != 0 {
			t.Error("Made() =", n)
		}
		for _, s := range []string{"", "a", "123456789", "\x00", mixed(300)} {
			sumIs(t, "Sum", x.Sum(s), 0)
			for _, sum := range sums() {
				sumIs(t, "More", x.More(sum, s), 0)
			}
		}
		for n := range 1 << 8 {
			sumIs(t, "Entry", x.Entry(n), 0)
		}
		for _, n := range wrongEntries() {
			sumIs(t, "Entry", x.Entry(n), 0)
		}
	}
}

func TestCr1Zero(t *testing.T) {
	all := mixed(300)
	for name, x := range fresh() {
		y := New()
		for size := range len(all) + 1 {
			sumIs(t, name+": Sum", x.Sum(all[:size]), y.Sum(all[:size]))
		}
		for _, sum := range sums() {
			sumIs(t, name+": More", x.More(sum, all), y.More(sum, all))
		}
		for n := -300; n < 600; n++ {
			sumIs(t, name+": Entry", x.Entry(n), y.Entry(n))
		}
		if x.Made() != y.Made() {
			t.Errorf("%s: Made() = %d; want %d", name, x.Made(), y.Made())
		}
	}
}

// Calls at once find all entries there, and make them once.
func TestCr1AtOnce(t *testing.T) {
	for range 2000 {
		x := New()
		gate := make(chan struct{}) // it lets all of them start together
		var all sync.WaitGroup
		for range 8 {
			all.Go(func() {
				<-gate
				if n := x.Made(); n != 0 && n != 1 {
					t.Error("Made() =", n)
				}
				if x.Sum("123456789") != 0xcbf43926 || x.Entry(255) != 0x2d02ef8d || x.More(0xe8b7be43, "bc") != 0x352441c2 || x.Made() != 1 {
					t.Error("a call at the same time as others answers something else")
				}
			})
		}
		close(gate)
		all.Wait()
		if n := x.Made(); n != 1 {
			t.Fatal("Made() =", n)
		}
	}
}

// Cr2

// Two parts, cut at each place.
func TestCr2TwoParts(t *testing.T) {
	x := New()
	for _, s := range []string{"", "a", "123456789", strings.Repeat("\x00", 40), strings.Repeat("\xff", 40), mixed(300)} {
		for cut := range len(s) + 1 {
			sumIs(t, "the sum cut at "+strconv.Itoa(cut), x.More(x.Sum(s[:cut]), s[cut:]), x.Sum(s))
		}
	}
}

// Many parts, of equal sizes and of growing ones, with empty parts in between.
func TestCr2ManyParts(t *testing.T) {
	x := New()
	all := mixed(1000)
	for size := 1; size <= 64; size++ {
		for growth := range 3 {
			sum := x.Sum("")
			for from, step := 0, size; from < len(all); step += growth {
				to := min(from+step, len(all))
				sum = x.More(x.More(sum, all[from:to]), "")
				sumIs(t, "the sum of the parts", sum, x.Sum(all[:to]))
				from = to
			}
		}
	}
}

// Parts that other tables summed go together all the same.
func TestCr2PartsOfOtherTables(t *testing.T) {
	all := mixed(100)
	for cut := range len(all) + 1 {
		sumIs(t, "the sum of the parts", New().More(New().Sum(all[:cut]), all[cut:]), New().Sum(all))
	}
}

// Bits are counted as the sum takes them, the lowest one of each byte first. Counted the other way, the property can't hold for the sum that the document defines: 05 8f f4 6a 70 and five bytes of 0 have the same sum, and differ within 31 bits of which each byte's highest one comes first.
func flip(s string, start int, pattern uint32) string {
	b := []byte(s)
	for i := range 32 {
		if pattern>>i&1 == 1 {
			b[(start+i)/8] ^= 1 << ((start + i) % 8)
		}
	}
	return string(b)
}

// fits tells whether all of a pattern's bits fall on the text.
func fits(s string, start int, pattern uint32) bool {
	return start+bits.Len32(pattern) <= 8*len(s)
}

func bases(size int) []string {
	return []string{strings.Repeat("\x00", size), strings.Repeat("\xff", size), mixed(size + 1)[1:]}
}

// patterns are ways to differ: up to ten bits in a row in all ways, one to three bits anywhere, and some of all kinds.
func patterns() []uint32 {
	var l []uint32
	for p := uint32(1); p < 1<<10; p++ {
		l = append(l, p, p<<22|1)
	}
	for a := range 32 {
		for b := range a + 1 {
			l = append(l, 1<<a|1<<b, 1<<a|1<<b|1, ^uint32(1<<a|1<<b))
		}
	}
	return append(append(l, 0xffffffff, 0xedb88320, 0x04c11db7, 0x82608edb, 0xdb710641), sums()[1:]...)
}

func TestCr2Differ(t *testing.T) {
	x := New()
	l := patterns()
	for _, size := range []int{1, 2, 3, 4, 5, 8, 13} {
		for _, s := range bases(size) {
			sum := x.Sum(s)
			for start := range 8 * size {
				for _, p := range l {
					if p != 0 && fits(s, start, p) && x.Sum(flip(s, start, p)) == sum {
						t.Fatalf("%x and %x have the same sum", s, flip(s, start, p))
					}
				}
			}
		}
	}
}

// independent tells whether no two of the ways to XOR some of the numbers are the same.
func independent(l []uint32) bool {
	var byTop [33]uint32
	for _, n := range l {
		for n != 0 && byTop[bits.Len32(n)] != 0 {
			n ^= byTop[bits.Len32(n)]
		}
		if n == 0 {
			return false
		}
		byTop[bits.Len32(n)] = n
	}
	return true
}

// single is, for each bit of a window, how the sum changes with it.
func single(x *Table, s string, start int) []uint32 {
	var l []uint32
	for i := range min(32, 8*len(s)-start) {
		l = append(l, x.Sum(s)^x.Sum(flip(s, start, 1<<i)))
	}
	return l
}

// In each window, what the bits change one by one is independent; since changes of several bits are the XOR of those (see TestCr2ChangesAdd), no way to differ within the window leaves the sum as it is.
func TestCr2DifferAll(t *testing.T) {
	x := New()
	for _, size := range []int{1, 2, 3, 4, 5, 8, 13, 64, 200} {
		for _, s := range bases(size) {
			for start := range 8 * size {
				if !independent(single(x, s, start)) {
					t.Fatalf("some text differs from %x from bit %d on and has the same sum", s, start)
				}
			}
		}
	}
}

func TestCr2ChangesAdd(t *testing.T) {
	x := New()
	for _, size := range []int{4, 5, 13, 64} {
		for _, s := range bases(size) {
			for start := range 8*size - 31 {
				one := single(x, s, start)
				for _, p := range sums() {
					want := x.Sum(s)
					for i, change := range one {
						if p>>i&1 == 1 {
							want ^= change
						}
					}
					sumIs(t, "Sum of the changed text", x.Sum(flip(s, start, p)), want)
				}
			}
		}
	}
}

// Windows at both ends and in the middle of a long text.
func TestCr2DifferLong(t *testing.T) {
	x := New()
	for _, s := range bases(1 << 14) {
		for _, start := range []int{0, 1, 7, 8, 4*len(s) - 3, 8*len(s) - 33, 8*len(s) - 32, 8*len(s) - 1} {
			if !independent(single(x, s, start)) {
				t.Fatalf("some text differs from bit %d on and has the same sum", start)
			}
		}
	}
}
