package frame

import (
	"bytes"
	"encoding/binary"
	"hash/crc32"
	"slices"
	"strconv"
	"strings"
	"testing"

	"reeve/api"
)

// plain is what the document says of a frame, by the library's sum; of any length that two bytes hold, so that wrong ones can be made as well.
func plain(body string) string {
	b := binary.BigEndian.AppendUint16([]byte{82}, uint16(len(body)))
	b = append(b, body...)
	return string(binary.BigEndian.AppendUint32(b, crc32.ChecksumIEEE(b[1:])))
}

// plainOpen is what the document says of the bytes in front, condition by condition.
func plainOpen(s string) (string, int, api.Errno) {
	switch {
	case len(s) == 0:
		return "", 0, api.ErrShort
	case s[0] != 82:
		return "", 0, api.ErrForm
	case len(s) < 3:
		return "", 0, api.ErrShort
	}
	size := 256*int(s[1]) + int(s[2])
	switch {
	case size > 200:
		return "", 0, api.ErrMany
	case len(s) < size+7:
		return "", 0, api.ErrShort
	case s[:size+7] != plain(s[3:size+3]):
		return "", 0, api.ErrSum
	}
	return s[3 : size+3], size + 7, api.OK
}

// mixed are bytes of all values, the same in each run.
func mixed(many int) string {
	b := make([]byte, many)
	x := uint64(1)
	for i := range b {
		x = x*6364136223846793005 + 1442695040888963407
		b[i] = byte(x >> 56)
	}
	return string(b)
}

// bodies are some of one length: the same byte again and again, bytes that could begin a frame, and mixed ones.
func bodies(size int) []string {
	return []string{
		strings.Repeat("\x00", size), strings.Repeat("\xff", size), strings.Repeat("R", size),
		strings.Repeat("R\x00\x01", size)[:size], mixed(size + 1)[1:],
	}
}

// rests are bytes that may stand behind a frame.
func rests() []string {
	return []string{"", "\x00", "R", "x", "rest", "R\x00\x01a", plain(""), plain("a"), plain("a")[:7], strings.Repeat("\xff", 300)}
}

// changed is a text with one byte XORed.
func changed(s string, at int, by byte) string {
	b := []byte(s)
	b[at] ^= by
	return string(b)
}

// damages are ways to change a byte: each bit alone, all of them, and some in between.
func damages() []byte { return []byte{1, 2, 4, 8, 16, 32, 64, 128, 255, 3, 0x55, 0xaa, 0xc0} }

// frames are bodies' frames, one behind the other, and where each of them ends.
func frames(l []string) (string, []int) {
	all := ""
	var ends []int
	for _, body := range l {
		all += plain(body)
		ends = append(ends, len(all))
	}
	return all, ends
}

// complete are the frames that end ahead of a position or at it: how many, and how many bytes they have.
func complete(ends []int, before int) (int, int) {
	many, size := 0, 0
	for _, end := range ends {
		if end <= before {
			many++
			size = end
		}
	}
	return many, size
}

// several are lists of bodies of which none, one or many are short, empty or as long as can be.
func several() [][]string {
	long := mixed(200)
	return [][]string{
		nil, {""}, {"a"}, {long}, {"", ""}, {"", "", ""}, {"a", "b"}, {"b", "a"}, {"a", "a", "a"}, {"", "a", ""},
		{"R", "R\x00\x01", plain("a")}, {plain(plain("a")), plain("")}, {"one", "two", "three", "four", "five"},
		{"\x00", "\x00\x00", "\xff\xff\xff\xff", "\x80"}, {long, "", long[:100]}, {"a", long, long, "b"},
	}
}

func sealIs(t *testing.T, body, want string, e api.Errno) {
	t.Helper()
	if s, got := Seal(body); s != want || got != e {
		t.Fatalf("Seal of %d bytes, %.9x = %x, %v; want %x, %v", len(body), body, s, got, want, e)
	}
}

func openIs(t *testing.T, s, want string, size int, e api.Errno) {
	t.Helper()
	if body, n, got := Open(s); body != want || n != size || got != e {
		t.Fatalf("Open of %d bytes, %.250x = %x, %d, %v; want %x, %d, %v", len(s), s, body, n, got, want, size, e)
	}
}

func allIs(t *testing.T, s string, want []string, size int) {
	t.Helper()
	if l, n := All(s); !slices.Equal(l, want) || n != size {
		t.Fatalf("All of %d bytes, %.250x = %x, %d; want %x, %d", len(s), s, l, n, want, size)
	}
}

// Fr1

// Example 1, and other frames whose sums were reckoned elsewhere.
func TestFr1SealExamples(t *testing.T) {
	for body, want := range map[string]string{
		"": "R\x00\x00\x41\xd9\x12\xff", "a": "R\x00\x01a\xdc\xef\xb9\x9d", "R": "R\x00\x01R\x63\x3f\xd8\x8b", "\x00": "R\x00\x01\x00\xe6\x5a\xe8\x53",
		"reeve": "R\x00\x05reeve\x48\xea\xb8\x3f", "123456789": "R\x00\x09123456789\xba\x6f\xb7\xae",
		strings.Repeat("\x00", 200): "R\x00\xc8" + strings.Repeat("\x00", 200) + "\x28\x74\xc3\xd4",
		strings.Repeat("\xff", 200): "R\x00\xc8" + strings.Repeat("\xff", 200) + "\x8a\x87\x1a\x4f",
	} {
		sealIs(t, body, want, api.OK)
		openIs(t, want, body, len(want), api.OK)
	}
}

func TestFr1SealAllLengths(t *testing.T) {
	for size := range 201 {
		for _, body := range bodies(size) {
			sealIs(t, body, plain(body), api.OK)
		}
	}
}

func TestFr1SealOneByte(t *testing.T) {
	for n := range 256 {
		body := string([]byte{byte(n)})
		sealIs(t, body, plain(body), api.OK)
	}
}

// A length whose lowest one or two bytes are those of a right one is wrong all the same.
func TestFr1SealTooLong(t *testing.T) {
	for _, size := range []int{201, 202, 255, 256, 257, 300, 456, 457, 1 << 15, 1<<16 - 1, 1 << 16, 1<<16 + 1, 1<<16 + 200, 1<<16 + 201, 1 << 20} {
		for _, body := range bodies(size) {
			sealIs(t, body, "", api.ErrMany)
		}
	}
}

func TestFr1Size(t *testing.T) {
	for body, want := range map[int]int{
		0: 7, 1: 8, 2: 9, 100: 107, 199: 206, 200: 207,
		-1: 0, -2: 0, -6: 0, -7: 0, -8: 0, 201: 0, 202: 0, 207: 0, 256: 0, 1 << 16: 0, 1<<16 + 1: 0, 1 << 32: 0, 1<<32 + 5: 0, -1 << 32: 0,
		api.MaxInt: 0, api.MaxInt - 6: 0, api.MinInt: 0, api.MinInt + 7: 0,
	} {
		if got := Size(body); got != want {
			t.Errorf("Size(%d) = %d; want %d", body, got, want)
		}
	}
}

// Size is how many bytes Seal makes, and 0 exactly where Seal makes none.
func TestFr1SizeIsThatOfSeal(t *testing.T) {
	for body := range 1000 {
		s, e := Seal(strings.Repeat("x", body))
		if Size(body) != len(s) || (Size(body) == 0) != (e == api.ErrMany) {
			t.Errorf("Size(%d) = %d; Seal makes %d bytes and tells %v", body, Size(body), len(s), e)
		}
		if got := Size(-1 - body); got != 0 {
			t.Errorf("Size(%d) = %d", -1-body, got)
		}
	}
}

func TestFr1OpenAllLengths(t *testing.T) {
	for size := range 201 {
		for _, body := range bodies(size) {
			for _, rest := range rests() {
				openIs(t, plain(body)+rest, body, size+7, api.OK)
			}
		}
	}
}

// Each error where several apply: the first one is told.
func TestFr1OpenErrors(t *testing.T) {
	long := plain(mixed(201))
	for _, c := range []struct {
		s string
		e api.Errno
	}{
		{"", api.ErrShort},
		{"x", api.ErrForm}, {"\x00", api.ErrForm}, {"S", api.ErrForm}, {"Q", api.ErrForm}, {"r", api.ErrForm}, {"\xd2", api.ErrForm},
		{"x\x00", api.ErrForm}, {"xR\x00\x01", api.ErrForm}, {"x\xff\xff", api.ErrForm}, {"x" + plain("a"), api.ErrForm}, {"\x00" + plain("a")[1:], api.ErrForm},
		{"R", api.ErrShort}, {"R\x00", api.ErrShort}, {"R\xff", api.ErrShort}, {"RR", api.ErrShort}, {"R\x01", api.ErrShort},
		{"R\x00\xc9", api.ErrMany}, {"R\x01\x00", api.ErrMany}, {"R\x01\x01", api.ErrMany}, {"R\xff\xff", api.ErrMany}, {"R\x01\xc8", api.ErrMany}, {"R\x80\x00", api.ErrMany},
		{long, api.ErrMany}, {long[:100], api.ErrMany}, {long + "rest", api.ErrMany}, {changed(long, 207, 1), api.ErrMany},
		{plain(mixed(256)), api.ErrMany}, {plain(mixed(257)), api.ErrMany}, {plain(mixed(1<<16 - 1)), api.ErrMany},
		{"R\x00\x00", api.ErrShort}, {"R\x00\xc8", api.ErrShort}, {"R\x00\x01a", api.ErrShort}, {"R\x00\x00\x00\x00\x00", api.ErrShort}, {"R\x00\x01a\x00\x00\x00", api.ErrShort},
		{plain("a")[:7], api.ErrShort}, {plain(mixed(200))[:206], api.ErrShort}, {plain("")[:6], api.ErrShort},
		{"R\x00\x00\x00\x00\x00\x00", api.ErrSum}, {"R\x00\x01a\x00\x00\x00\x00", api.ErrSum}, {"R\x00\x01a\xff\xff\xff\xff", api.ErrSum}, {"R\x00\x01b" + plain("a")[4:], api.ErrSum},
	} {
		openIs(t, c.s, "", 0, c.e)
	}
}

// All texts of up to seven bytes, of values that begin a frame, are lengths about the edge, or neither; and all first bytes.
func TestFr1OpenShortTexts(t *testing.T) {
	l := []string{""}
	for at := 0; at < len(l); at++ {
		body, size, e := plainOpen(l[at])
		openIs(t, l[at], body, size, e)
		if len(l[at]) == 7 {
			continue
		}
		for _, next := range []string{"\x00", "\x01", "R", "\xc8", "\xc9"} {
			l = append(l, l[at]+next)
		}
	}
	for first := range 256 {
		for _, rest := range []string{"", "\x00", "\x00\x01", "\x00\xc9", plain("")[1:], plain("a")[1:], plain("a")[1:7]} {
			s := string([]byte{byte(first)}) + rest
			body, size, e := plainOpen(s)
			openIs(t, s, body, size, e)
		}
	}
}

// All lengths that two bytes hold, ahead of too few bytes, and of as many as the longest frame has.
func TestFr1OpenAllTwoBytes(t *testing.T) {
	rest := mixed(204)
	for n := range 1 << 16 {
		head := string(binary.BigEndian.AppendUint16([]byte{82}, uint16(n)))
		for _, s := range []string{head, head + rest} {
			body, size, e := plainOpen(s)
			openIs(t, s, body, size, e)
		}
	}
}

// Frames of all lengths, cut off anywhere: the bytes that are missing are told of, from the first one on.
func TestFr1OpenCutOff(t *testing.T) {
	for size := range 201 {
		s := plain(mixed(size))
		for cut := range len(s) {
			openIs(t, s[:cut], "", 0, api.ErrShort)
		}
	}
}

// Frames of all lengths, with a byte damaged: each of the body and of the sum counts.
func TestFr1OpenDamaged(t *testing.T) {
	for size := range 201 {
		s := plain(mixed(size))
		for _, by := range damages() {
			openIs(t, changed(s, 0, by), "", 0, api.ErrForm)
			for at := 3; at < len(s); at++ {
				openIs(t, changed(s, at, by), "", 0, api.ErrSum)
			}
		}
	}
}

// A length that is wrong though nothing is missing: the sum covers it.
func TestFr1OpenAnotherLength(t *testing.T) {
	for size := range 200 {
		s := plain(mixed(size))
		for other := range size {
			openIs(t, s[:2]+string([]byte{byte(other)})+s[3:], "", 0, api.ErrSum)
		}
		openIs(t, s[:2]+string([]byte{byte(size + 1)})+s[3:], "", 0, api.ErrShort)
	}
}

// Sums of other parts, and the right one in another order, are wrong.
func TestFr1OpenOtherSums(t *testing.T) {
	for _, body := range []string{"", "a", "reeve", mixed(200)} {
		s := plain(body)
		head, sum := s[:len(s)-4], []byte(s[len(s)-4:])
		slices.Reverse(sum)
		openIs(t, head+string(sum), "", 0, api.ErrSum)
		for _, part := range []string{head, head[2:], body, body + head[1:3], "\x00" + head[1:]} {
			if part != head[1:] { // as it is of no body, with the length put behind it
				openIs(t, head+string(binary.BigEndian.AppendUint32(nil, crc32.ChecksumIEEE([]byte(part)))), "", 0, api.ErrSum)
			}
		}
		openIs(t, head+string(binary.BigEndian.AppendUint32(nil, ^crc32.ChecksumIEEE([]byte(head[1:])))), "", 0, api.ErrSum)
	}
}

// Whatever the bytes are, the answer is the document's; half of them begin like a frame.
func TestFr1OpenAnyBytes(t *testing.T) {
	all := mixed(1 << 16)
	for at := 0; at+300 < len(all); at++ {
		s := all[at : at+int(all[at])]
		if at%2 == 0 {
			s = "R\x00" + s
		}
		body, size, e := plainOpen(s)
		openIs(t, s, body, size, e)
	}
}

// A frame is a body like others.
func TestFr1Nested(t *testing.T) {
	s := "core"
	for len(s) <= 200 {
		sealed, e := Seal(s)
		if e != api.OK {
			t.Fatal(e)
		}
		openIs(t, sealed, s, len(s)+7, api.OK)
		s = sealed
	}
	sealIs(t, s, "", api.ErrMany)
}

// What a call answers does not depend on those ahead of it, be they right or wrong.
func TestFr1CallsApart(t *testing.T) {
	good := plain("a")
	for range 3 {
		for _, s := range []string{"", "x", "R", "R\x00\xc9", good[:7], changed(good, 3, 1)} {
			_, _, want := plainOpen(s)
			openIs(t, s, "", 0, want)
			openIs(t, good, "a", 8, api.OK)
			sealIs(t, mixed(201), "", api.ErrMany)
			sealIs(t, "a", good, api.OK)
		}
	}
}

// Fr2

func TestFr2AllOfNone(t *testing.T) {
	for _, s := range []string{
		"", "x", "R", "R\x00", "R\x00\x01", "R\x00\x01a", "R\x00\xc9", "\x00", plain("")[:6], plain("a")[:7], changed(plain("a"), 7, 1),
		"x" + plain("a"), "\x00" + plain("a"), plain("a")[1:], plain("a")[1:] + plain("b"), plain(mixed(201)), plain(mixed(201)) + plain("a"),
	} {
		allIs(t, s, nil, 0)
	}
}

func TestFr2AllOfSeveral(t *testing.T) {
	for _, l := range several() {
		s, _ := frames(l)
		allIs(t, s, l, len(s))
	}
}

// Behind the frames, anything that begins with no frame ends them, and even right frames behind that do not count.
func TestFr2AllUpToTheFirstError(t *testing.T) {
	bad := []string{"x", "\x00", "R", "R\x00", "R\x00\xc9", "R\x00\x01a", plain(mixed(201)), changed(plain("a"), 0, 1), changed(plain("a"), 3, 1), changed(plain("a"), 7, 128), changed(plain(""), 6, 1)}
	for _, l := range several() {
		s, _ := frames(l)
		for _, rest := range bad {
			allIs(t, s+rest, l, len(s))
			if _, _, e := plainOpen(rest + plain("c")); e != api.OK {
				allIs(t, s+rest+plain("c"), l, len(s))
				allIs(t, s+rest+s+s, l, len(s))
			}
		}
	}
}

// All tells what Open tells, frame by frame.
func TestFr2AllIsOpenAgainAndAgain(t *testing.T) {
	for _, l := range several() {
		s, _ := frames(l)
		for _, rest := range rests() {
			var want []string
			at := 0
			for {
				body, size, e := Open((s + rest)[at:])
				if e != api.OK {
					break
				}
				want = append(want, body)
				at += size
			}
			allIs(t, s+rest, want, at)
		}
	}
}

func TestFr2AllOfMany(t *testing.T) {
	var want []string
	var all bytes.Buffer
	for n := range 1 << 16 {
		want = append(want, strconv.Itoa(n))
		all.WriteString(plain(want[n]))
	}
	s := all.String()
	allIs(t, s, want, len(s))
	allIs(t, s[:len(s)-1], want[:len(want)-1], len(s)-Size(len(want[len(want)-1])))
}

// A list that is answered is the caller's own.
func TestFr2AllIsNew(t *testing.T) {
	s, _ := frames([]string{"a", "b", "c"})
	first, _ := All(s)
	second, _ := All(s)
	first[0] = "x"
	_ = append(first[:1], "y")
	if !slices.Equal(second, []string{"a", "b", "c"}) {
		t.Error(second)
	}
	allIs(t, s, []string{"a", "b", "c"}, len(s))
}

// Fr3

func TestFr3CutOff(t *testing.T) {
	for _, l := range several() {
		s, ends := frames(l)
		for cut := range len(s) + 1 {
			many, size := complete(ends, cut)
			allIs(t, s[:cut], l[:many], size)
		}
	}
}

// lengthBytes are the positions of the bytes that belong to a length.
func lengthBytes(ends []int) map[int]bool {
	at := map[int]bool{}
	start := 0
	for _, end := range ends {
		at[start+1], at[start+2] = true, true
		start = end
	}
	return at
}

func TestFr3Damaged(t *testing.T) {
	for _, l := range several() {
		s, ends := frames(l)
		skip := lengthBytes(ends)
		for at := range len(s) {
			many, size := complete(ends, at)
			for _, by := range damages() {
				if !skip[at] {
					allIs(t, changed(s, at, by), l[:many], size)
				}
			}
		}
	}
}

// Each byte of short frames, changed to each other value.
func TestFr3DamagedToAnyValue(t *testing.T) {
	l := []string{"", "a", "R\x00", "", "four"}
	s, ends := frames(l)
	skip := lengthBytes(ends)
	for at := range len(s) {
		many, size := complete(ends, at)
		for by := 1; by < 256 && !skip[at]; by++ {
			allIs(t, changed(s, at, byte(by)), l[:many], size)
		}
	}
}

// Cut off behind a damaged byte, or right at it.
func TestFr3DamagedAndCutOff(t *testing.T) {
	l := []string{"one", "", "three"}
	s, ends := frames(l)
	skip := lengthBytes(ends)
	for at := range len(s) {
		for cut := at; cut <= len(s) && !skip[at]; cut++ {
			many, size := complete(ends, at)
			allIs(t, changed(s, at, 0x21)[:cut], l[:many], size)
		}
	}
}

// The frames that Seal makes, and not only those of the model, are read back so far.
func TestFr3OfSeal(t *testing.T) {
	for _, l := range several() {
		all := ""
		for _, body := range l {
			s, e := Seal(body)
			if e != api.OK {
				t.Fatal(e)
			}
			all += s
		}
		allIs(t, all, l, len(all))
		if len(l) > 0 {
			last := len(l) - 1
			allIs(t, all[:len(all)-1], l[:last], len(all)-Size(len(l[last])))
			allIs(t, changed(all, len(all)-1, 1), l[:last], len(all)-Size(len(l[last])))
		}
	}
}
