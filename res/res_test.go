package res

import (
	"fmt"
	"math/big"
	"slices"
	"strings"
	"testing"

	"reeve/api"
)

// unit is MaxUnit as the document writes it.
const unit = 1 << 20

// plainRight is what the document says of a valid vector.
func plainRight(r api.Res) bool {
	valid := func(n int) bool { return n >= 0 && n <= unit }
	return valid(r[0]) && valid(r[1]) && valid(r[2])
}

// plainFits: no number of need is greater than the corresponding one of free.
func plainFits(need, free api.Res) bool {
	return !(need[0] > free[0] || need[1] > free[1] || need[2] > free[2])
}

// plainLess: the first number in which the two differ is less in a.
func plainLess(a, b api.Res) bool {
	if a[0] != b[0] {
		return a[0] < b[0]
	}
	if a[1] != b[1] {
		return a[1] < b[1]
	}
	return a[2] < b[2]
}

// plainMost is the greater number at each position.
func plainMost(a, b api.Res) api.Res {
	for i := range a {
		if b[i] > a[i] {
			a[i] = b[i]
		}
	}
	return a
}

// exact is what the document says of a sum, or of a difference, computed with numbers of any size, so that nothing wraps.
func exact(a, b api.Res, step func(z, x, y *big.Int) *big.Int) (api.Res, bool) {
	var r api.Res
	for i := range a {
		z := step(new(big.Int), big.NewInt(int64(a[i])), big.NewInt(int64(b[i])))
		if a[i] < 0 || a[i] > unit || b[i] < 0 || b[i] > unit || z.Sign() < 0 || z.Cmp(big.NewInt(unit)) > 0 {
			return api.Res{}, false
		}
		r[i] = int(z.Int64())
	}
	return r, true
}

func plainText(r api.Res) string { return fmt.Sprintf("%d,%d,%d", r[0], r[1], r[2]) }

// plainParse is what the document says of a text as a vector: it looks for the vector whose text it is.
func plainParse(s string) (api.Res, api.Errno) {
	var r api.Res
	fmt.Sscanf(s, "%d,%d,%d", &r[0], &r[1], &r[2])
	if plainText(r) != s {
		return api.Res{}, api.ErrForm
	}
	return r, api.OK
}

// edges are the numbers at which a check is likeliest to be wrong: about 0, about MaxUnit, its half and its double, about powers of two at which a number of fewer bits ends, and the ends of int.
func edges() []int {
	l := []int{api.MinInt, api.MinInt + 1, api.MaxInt - 1, api.MaxInt, api.MinInt + unit, api.MaxInt - unit, 1 << 62, -1 << 62, api.MaxTick}
	for _, n := range []int{0, unit / 2, unit, 2 * unit, -unit, 1 << 31, 1 << 32, 1<<32 + unit, -1 << 32} {
		l = append(l, n-1, n, n+1)
	}
	return l
}

// mixed are vectors of numbers of all lengths and both signs, the same in each run; every other one is valid.
func mixed(many int) []api.Res {
	var l []api.Res
	x := uint64(1)
	for i := range many {
		var r api.Res
		for at := range r {
			x = x*6364136223846793005 + 1442695040888963407
			r[at] = int(x) >> (x >> 3 % 64)
			if i%2 == 0 {
				r[at] = int(x>>33) % (unit + 1)
			}
		}
		l = append(l, r)
	}
	return l
}

// all are the vectors of some numbers.
func all(numbers ...int) []api.Res {
	var l []api.Res
	for _, x := range numbers {
		for _, y := range numbers {
			for _, z := range numbers {
				l = append(l, api.Res{x, y, z})
			}
		}
	}
	return l
}

// with is a vector with another number at one position.
func with(r api.Res, at, n int) api.Res {
	r[at] = n
	return r
}

// vectors are those of a few numbers, those with one edge at each position, and mixed ones.
func vectors() []api.Res {
	l := append(all(-1, 0, 1, unit-1, unit, unit+1), mixed(400)...)
	for _, n := range edges() {
		for at := range api.Dims {
			for _, other := range []int{0, 5, unit, -3} {
				l = append(l, with(api.Res{other, other, other}, at, n))
			}
		}
	}
	return l
}

// pairs hands out two vectors at a time: all of a few numbers, those that meet edge by edge at each position, while the others are less, equal, greater or not valid, and mixed ones.
func pairs(do func(a, b api.Res)) {
	few := all(-1, 0, 1, unit-1, unit, unit+1)
	for _, a := range few {
		for _, b := range few {
			do(a, b)
		}
	}
	others := [][2]api.Res{{{}, {}}, {{7, 7, 7}, {7, 7, 7}}, {{3, 3, 3}, {9, 9, 9}}, {{9, 9, 9}, {3, 3, 3}}, {{3, 9, 3}, {9, 3, 9}}, {{-2, -2, -2}, {5, 5, 5}}}
	for _, x := range edges() {
		for _, y := range edges() {
			for at := range api.Dims {
				for _, other := range others {
					do(with(other[0], at, x), with(other[1], at, y))
				}
			}
			do(api.Res{x, x, x}, api.Res{y, y, y})
		}
	}
	l := mixed(300)
	for _, a := range l {
		for _, b := range l {
			do(a, b)
		}
	}
}

// same holds what Add or Sub answered against what it should.
func same(t *testing.T, name string, a, b, r api.Res, ok bool, want api.Res, right bool) {
	t.Helper()
	if r != want || ok != right {
		t.Fatalf("%s(%v, %v) = %v, %t; want %v, %t", name, a, b, r, ok, want, right)
	}
}

func parseIs(t *testing.T, s string, want api.Res, e api.Errno) {
	t.Helper()
	if r, got := Parse(s); r != want || got != e {
		t.Fatalf("Parse(%.60q) = %v, %v; want %v, %v", s, r, got, want, e)
	}
}

// Re1

func TestRe1RightExamples(t *testing.T) {
	for _, r := range []api.Res{{}, {1, 2, 3}, {unit, unit, unit}, {unit, 0, 0}, {0, unit, 0}, {0, 0, unit}, {unit - 1, unit - 1, unit - 1}, {0, 1, unit}} {
		if !Right(r) {
			t.Errorf("Right(%v) is false", r)
		}
	}
}

// Each number that isn't valid, at each position, beside valid ones and beside itself.
func TestRe1RightOneWrongNumber(t *testing.T) {
	for _, n := range edges() {
		for at := range api.Dims {
			for _, r := range []api.Res{{}, {1, 2, 3}, {unit, unit, unit}, {n, n, n}} {
				valid := n >= 0 && n <= unit
				if got := Right(with(r, at, n)); got != valid {
					t.Errorf("Right(%v) = %t", with(r, at, n), got)
				}
			}
		}
	}
}

func TestRe1RightOfAll(t *testing.T) {
	valid := 0
	for _, r := range vectors() {
		if got := Right(r); got != plainRight(r) {
			t.Errorf("Right(%v) = %t", r, got)
		} else if got {
			valid++
		}
	}
	if valid < 100 || valid > len(vectors())-100 {
		t.Errorf("%d of %d vectors are valid", valid, len(vectors()))
	}
}

func TestRe1FitsExamples(t *testing.T) {
	free := api.Res{4, 5, 6}
	for _, c := range []struct {
		need api.Res
		want bool
	}{
		{api.Res{}, true}, {free, true}, {api.Res{4, 5, 5}, true}, {api.Res{3, 5, 6}, true}, {api.Res{4, 4, 6}, true}, {api.Res{0, 0, 6}, true}, {api.Res{4, 0, 0}, true}, {api.Res{0, 5, 0}, true},
		{api.Res{5, 5, 6}, false}, {api.Res{4, 6, 6}, false}, {api.Res{4, 5, 7}, false}, {api.Res{5, 0, 0}, false}, {api.Res{0, 6, 0}, false}, {api.Res{0, 0, 7}, false}, {api.Res{5, 6, 7}, false}, {api.Res{9, 9, 9}, false},
		// What isn't valid is compared just the same.
		{api.Res{-5, 2, 4}, true}, {api.Res{api.MinInt, api.MinInt, api.MinInt}, true}, {api.Res{api.MinInt, api.MaxInt, 0}, false}, {api.Res{api.MaxInt, 0, 0}, false},
	} {
		if got := Fits(c.need, free); got != c.want {
			t.Errorf("Fits(%v, %v) = %t", c.need, free, got)
		}
	}
	if !Fits(api.Res{-3, -3, -3}, api.Res{-3, -2, -1}) || Fits(api.Res{}, api.Res{0, 0, -1}) || !Fits(api.Res{api.MaxInt, 0, api.MinInt}, api.Res{api.MaxInt, 0, api.MinInt}) {
		t.Error("Fits of vectors that are not valid")
	}
}

func TestRe1FitsOfPairs(t *testing.T) {
	pairs(func(a, b api.Res) {
		if got := Fits(a, b); got != plainFits(a, b) {
			t.Fatalf("Fits(%v, %v) = %t", a, b, got)
		}
	})
}

// Vectors that differ in one number alone, in several, in none; the first difference counts, whatever stands behind it.
func TestRe1LessExamples(t *testing.T) {
	for _, c := range []struct {
		a, b       api.Res
		ahead, not bool
	}{
		{api.Res{1, 2, 3}, api.Res{1, 2, 3}, false, false}, {api.Res{}, api.Res{}, false, false},
		{api.Res{0, 2, 3}, api.Res{1, 2, 3}, true, false}, {api.Res{1, 1, 3}, api.Res{1, 2, 3}, true, false}, {api.Res{1, 2, 2}, api.Res{1, 2, 3}, true, false},
		{api.Res{0, 9, 9}, api.Res{1, 2, 3}, true, false}, {api.Res{1, 1, 9}, api.Res{1, 2, 3}, true, false}, {api.Res{0, 2, 9}, api.Res{1, 2, 3}, true, false}, {api.Res{0, 9, 3}, api.Res{1, 2, 3}, true, false},
		{api.Res{0, 0, 0}, api.Res{1, 1, 1}, true, false}, {api.Res{1, 2, 3}, api.Res{1, 3, 0}, true, false}, {api.Res{2, 10, 0}, api.Res{10, 2, 0}, true, false},
		{api.Res{-1, 5, 5}, api.Res{0, 0, 0}, true, false}, {api.Res{-2, 0, 0}, api.Res{-1, 0, 0}, true, false}, {api.Res{0, 0, -1}, api.Res{}, true, false},
		{api.Res{api.MinInt, 0, 0}, api.Res{api.MaxInt, 0, 0}, true, false}, {api.Res{5, api.MinInt, 9}, api.Res{5, api.MaxInt, 0}, true, false}, {api.Res{5, 5, api.MinInt}, api.Res{5, 5, 1}, true, false}, {api.Res{-1, 0, 0}, api.Res{api.MaxInt, 0, 0}, true, false},
	} {
		if got := Less(c.a, c.b); got != c.ahead {
			t.Errorf("Less(%v, %v) = %t", c.a, c.b, got)
		}
		if got := Less(c.b, c.a); got != c.not {
			t.Errorf("Less(%v, %v) = %t", c.b, c.a, got)
		}
	}
}

func TestRe1LessOfPairs(t *testing.T) {
	pairs(func(a, b api.Res) {
		if got := Less(a, b); got != plainLess(a, b) {
			t.Fatalf("Less(%v, %v) = %t", a, b, got)
		}
	})
}

// Of two vectors that differ, exactly one is ahead; and the order is transitive.
func TestRe1LessIsAnOrder(t *testing.T) {
	pairs(func(a, b api.Res) {
		if (Less(a, b) != Less(b, a)) != (a != b) {
			t.Fatalf("%v and %v", a, b)
		}
	})
	few := all(-1, 0, 2)
	for _, a := range few {
		for _, b := range few {
			for _, c := range few {
				if Less(a, b) && Less(b, c) && !Less(a, c) {
					t.Fatalf("%v, %v, %v", a, b, c)
				}
			}
		}
	}
}

// All vectors of numbers in order, which come in order themselves.
func TestRe1LessSorts(t *testing.T) {
	in := all(api.MinInt, -unit, -1, 0, 1, 9, 10, unit, api.MaxInt)
	l := slices.Clone(in)
	slices.Reverse(l)
	slices.SortFunc(l, func(a, b api.Res) int {
		if Less(a, b) {
			return -1
		}
		if Less(b, a) {
			return 1
		}
		return 0
	})
	if !slices.Equal(l, in) {
		t.Error("sorted otherwise")
	}
}

func TestRe1MostExamples(t *testing.T) {
	for _, c := range []struct{ a, b, want api.Res }{
		{api.Res{}, api.Res{}, api.Res{}}, {api.Res{1, 2, 3}, api.Res{1, 2, 3}, api.Res{1, 2, 3}}, {api.Res{1, 5, 3}, api.Res{4, 2, 6}, api.Res{4, 5, 6}},
		{api.Res{9, 0, 0}, api.Res{1, 1, 1}, api.Res{9, 1, 1}}, {api.Res{0, 9, 0}, api.Res{1, 1, 1}, api.Res{1, 9, 1}}, {api.Res{0, 0, 9}, api.Res{1, 1, 1}, api.Res{1, 1, 9}},
		{api.Res{4, 4, 4}, api.Res{1, 2, 5}, api.Res{4, 4, 5}}, {api.Res{unit, 0, unit}, api.Res{0, unit, unit - 1}, api.Res{unit, unit, unit}},
		// What isn't valid stays as it is.
		{api.Res{-1, -2, -3}, api.Res{-3, -2, -1}, api.Res{-1, -2, -1}}, {api.Res{api.MinInt, api.MaxInt, unit + 1}, api.Res{api.MaxInt, api.MinInt, unit}, api.Res{api.MaxInt, api.MaxInt, unit + 1}}, {api.Res{api.MinInt, api.MinInt, api.MinInt}, api.Res{api.MinInt, api.MinInt + 1, -1}, api.Res{api.MinInt, api.MinInt + 1, -1}},
	} {
		if got := Most(c.a, c.b); got != c.want {
			t.Errorf("Most(%v, %v) = %v; want %v", c.a, c.b, got, c.want)
		}
		if got := Most(c.b, c.a); got != c.want {
			t.Errorf("Most(%v, %v) = %v; want %v", c.b, c.a, got, c.want)
		}
	}
}

func TestRe1MostOfPairs(t *testing.T) {
	pairs(func(a, b api.Res) {
		most := Most(a, b)
		if most != plainMost(a, b) {
			t.Fatalf("Most(%v, %v) = %v", a, b, most)
		}
		if !Fits(a, most) || !Fits(b, most) {
			t.Fatalf("Most(%v, %v) = %v, into which they don't fit", a, b, most)
		}
	})
}

// Re2

// Example 1 and others.
func TestRe2AddAndSubExamples(t *testing.T) {
	a, b := api.Res{4, 4, 4}, api.Res{1, 2, 5}
	r, ok := Sub(a, b)
	same(t, "Sub", a, b, r, ok, api.Res{}, false)
	r, ok = Sub(b, a)
	same(t, "Sub", b, a, r, ok, api.Res{}, false)
	r, ok = Add(a, b)
	same(t, "Add", a, b, r, ok, api.Res{5, 6, 9}, true)
	r, ok = Sub(a, api.Res{1, 4, 0})
	same(t, "Sub", a, api.Res{1, 4, 0}, r, ok, api.Res{3, 0, 4}, true)
	r, ok = Add(api.Res{}, api.Res{})
	same(t, "Add", api.Res{}, api.Res{}, r, ok, api.Res{}, true)
	r, ok = Sub(a, a)
	same(t, "Sub", a, a, r, ok, api.Res{}, true)
	r, ok = Add(b, api.Res{})
	same(t, "Add", b, api.Res{}, r, ok, b, true)
	r, ok = Sub(b, api.Res{})
	same(t, "Sub", b, api.Res{}, r, ok, b, true)
}

// Sums and differences that just stay and just leave what is valid, at each position, while the others are valid; one wrong number alone leaves nothing of the others.
func TestRe2JustValid(t *testing.T) {
	low, high := api.Res{1, 2, 3}, api.Res{10, 20, 30}
	for at := range api.Dims {
		for _, n := range []int{0, 1, 2, unit / 2, unit - 2, unit - 1, unit} {
			a, b := with(high, at, n), with(low, at, unit-n)
			r, ok := Add(a, b)
			same(t, "Add", a, b, r, ok, with(api.Res{11, 22, 33}, at, unit), true)
			b = with(low, at, unit-n+1)
			r, ok = Add(a, b)
			same(t, "Add", a, b, r, ok, api.Res{}, false)
			r, ok = Add(b, a)
			same(t, "Add", b, a, r, ok, api.Res{}, false)
			b = with(low, at, n)
			r, ok = Sub(a, b)
			same(t, "Sub", a, b, r, ok, with(api.Res{9, 18, 27}, at, 0), true)
			b = with(low, at, n+1)
			r, ok = Sub(a, b)
			same(t, "Sub", a, b, r, ok, api.Res{}, false)
		}
	}
}

// What isn't valid has no sum and no difference, though the result alone would be valid: some of them because the numbers wrap.
func TestRe2RightResultsOfWrongVectors(t *testing.T) {
	for at := range api.Dims {
		for _, c := range [][2]int{{-1, 1}, {1, -1}, {-5, 7}, {7, -5}, {unit + 1, -1}, {-1, unit + 1}, {-1, -1}, {api.MinInt, api.MinInt}, {api.MinInt, api.MaxInt}, {api.MaxInt, api.MinInt}, {api.MaxInt, api.MinInt + 2}, {api.MinInt + 1, api.MaxInt}, {2 * unit, -unit}, {unit + 1, 0}, {0, unit + 1}, {-1, 0}, {0, -1}} {
			a, b := with(api.Res{9, 9, 9}, at, c[0]), with(api.Res{4, 4, 4}, at, c[1])
			r, ok := Add(a, b)
			same(t, "Add", a, b, r, ok, api.Res{}, false)
		}
		for _, c := range [][2]int{{-1, -1}, {-1, -2}, {5, -3}, {0, -1}, {0, -unit}, {unit + 1, 1}, {unit + 1, unit + 1}, {unit + 5, unit}, {2 * unit, unit}, {api.MaxInt, api.MaxInt}, {api.MinInt, api.MinInt}, {api.MaxInt, api.MaxInt - 7}, {api.MinInt, api.MaxInt}, {api.MinInt + 7, api.MinInt}, {api.MinInt, api.MaxInt - 1}, {-1, 0}, {unit, -1}} {
			a, b := with(api.Res{9, 9, 9}, at, c[0]), with(api.Res{4, 4, 4}, at, c[1])
			r, ok := Sub(a, b)
			same(t, "Sub", a, b, r, ok, api.Res{}, false)
		}
	}
}

// Each pair is held against numbers of any size.
func TestRe2AddAndSubOfPairs(t *testing.T) {
	sums, differences := 0, 0
	pairs(func(a, b api.Res) {
		r, ok := Add(a, b)
		want, right := exact(a, b, (*big.Int).Add)
		same(t, "Add", a, b, r, ok, want, right)
		if right {
			sums++
		}
		r, ok = Sub(a, b)
		want, right = exact(a, b, (*big.Int).Sub)
		same(t, "Sub", a, b, r, ok, want, right)
		if right {
			differences++
		}
	})
	if sums < 1000 || differences < 1000 {
		t.Errorf("%d sums and %d differences are valid", sums, differences)
	}
}

func TestRe2TextExamples(t *testing.T) {
	for want, r := range map[string]api.Res{
		"0,0,0": {}, "1,2,3": {1, 2, 3}, "3,2,1": {3, 2, 1}, "10,0,100": {10, 0, 100}, "1048576,1048575,1048577": {unit, unit - 1, unit + 1},
		"1,-2,3": {1, -2, 3}, "-1,-10,-100": {-1, -10, -100}, "-9223372036854775808,0,9223372036854775807": {api.MinInt, 0, api.MaxInt},
	} {
		if got := Text(r); got != want {
			t.Errorf("Text(%v) = %q; want %q", r, got, want)
		}
		parseIs(t, want, r, api.OK)
	}
}

// Every vector has a text, be it valid or not, and is read again from it.
func TestRe2TextOfAll(t *testing.T) {
	for _, r := range append(vectors(), all(edges()...)...) {
		s := Text(r)
		if s != plainText(r) {
			t.Fatalf("Text(%v) = %q", r, s)
		}
		parseIs(t, s, r, api.OK)
	}
}

func TestRe2ParseErrors(t *testing.T) {
	for _, s := range []string{
		"", ",", ",,", ",,,", "0", "1", "1,2", "0,0", "1,2,", ",1,2", "1,,2", "1,2,3,", ",1,2,3", "1,,2,3", "1,2,,3", "1,2,3,4", "0,0,0,0", "1,2,3,4,5,6", "1,2,3,x",
		"+1,2,3", "1,+2,3", "1,2,+3", "-,2,3", "1,-,3", "1,2,-", "--1,2,3", "1,2,--3", "-0,0,0", "0,-0,0", "0,0,-0", "1,2,3-", "-1,2-,3",
		" 1,2,3", "1 ,2,3", "1, 2,3", "1,2 ,3", "1,2, 3", "1,2,3 ", "1, 2, 3", "1 2 3", "1\t,2,3", "\t1,2,3", "1,2,3\t", "1,2,3\n", "\n1,2,3", "1,2,3\r\n", "1,2,3\x00", "\x001,2,3", "1,2,3 # 4",
		"01,2,3", "1,02,3", "1,2,03", "00,0,0", "0,00,0", "0,0,00", "-01,2,3", "1,-02,3", "1,2,-03", "1,2,0003",
		"a,b,c", "1,2,a", "a,2,3", "1,b,3", "1a,2,3", "0x1,2,3", "1e3,2,3", "1.0,2,3", "1,2,3.", "1_0,2,3", "1;2;3", "1.2.3", "1,2;3", "1，2，3", "１,2,3", "1,２,3", "1,2,３", "[1,2,3]", "{1 2 3}", "(1,2,3)", "1,2,\xff", "\xff1,2,3", "\ufeff1,2,3",
		"9223372036854775808,2,3", "1,9223372036854775808,3", "1,2,9223372036854775808", "-9223372036854775809,2,3", "1,2,-9223372036854775809", "18446744073709551617,2,3", "1,18446744073709551618,3", "1,2,18446744073709551619", "1,2,99999999999999999999",
	} {
		parseIs(t, s, api.Res{}, api.ErrForm)
	}
}

// Lists of every other length than three have no vector.
func TestRe2ParseOtherLengths(t *testing.T) {
	for _, n := range append(edges(), 5, 10) {
		var parts []string
		for many := range 12 {
			s := strings.Join(parts, ",")
			if many == api.Dims {
				parseIs(t, s, api.Res{n, n, n}, api.OK)
			} else {
				parseIs(t, s, api.Res{}, api.ErrForm)
			}
			parts = append(parts, fmt.Sprint(n))
		}
	}
	parseIs(t, strings.Repeat("1,", 1<<18)+"1", api.Res{}, api.ErrForm)
	parseIs(t, strings.Repeat(",", 1<<18), api.Res{}, api.ErrForm)
	parseIs(t, "1,2,"+strings.Repeat("3", 1<<18), api.Res{}, api.ErrForm)
}

// Right texts, with each of their parts made wrong in turn: what is right beside it isn't told.
func TestRe2ParseOneWrongPart(t *testing.T) {
	for _, wrong := range []string{"", "-", "+", "--1", "-0", "00", "01", "-01", "+1", "+0", " ", " 1", "1 ", "\t1", "1\n", "x", "1x", "é", "٣", "９", "\xff", "1.0", "1e1", "1,1", ",", "9223372036854775808", "-9223372036854775809", "18446744073709551616", strings.Repeat("9", 100)} {
		for _, r := range []api.Res{{}, {1, 2, 3}, {unit, unit - 1, unit + 1}, {-1, api.MinInt, api.MaxInt}} {
			for at := range api.Dims {
				parts := strings.Split(plainText(r), ",")
				parts[at] = wrong
				parseIs(t, strings.Join(parts, ","), api.Res{}, api.ErrForm)
			}
		}
	}
}

// Each byte in the place of each of a text, and between them.
func TestRe2ParseEachByte(t *testing.T) {
	for _, good := range []string{"0,0,0", "1,-2,3", "10,20,-30", "1048576,0,1048577", "-9223372036854775808,9223372036854775807,5"} {
		for at := range len(good) + 1 {
			for b := range 256 {
				s := good[:at] + string([]byte{byte(b)}) + good[at:]
				want, e := plainParse(s)
				parseIs(t, s, want, e)
				if at < len(good) {
					s = good[:at] + string([]byte{byte(b)}) + good[at+1:]
					want, e = plainParse(s)
					parseIs(t, s, want, e)
				}
			}
		}
		for end := range len(good) {
			want, e := plainParse(good[:end])
			parseIs(t, good[:end], want, e)
			want, e = plainParse(good[end:])
			parseIs(t, good[end:], want, e)
		}
	}
}

// texts are all that have up to so many of some characters.
func texts(most int, characters ...string) []string {
	l := []string{""}
	from := 0
	for range most {
		end := len(l)
		for _, s := range l[from:end] {
			for _, next := range characters {
				l = append(l, s+next)
			}
		}
		from = end
	}
	return l
}

// All short texts; each that is read at all is the one that is written.
func TestRe2ParseShortTexts(t *testing.T) {
	read := 0
	for _, s := range append(texts(8, "0", "1", "-", ","), texts(6, "0", "7", "+", " ", ",")...) {
		want, e := plainParse(s)
		parseIs(t, s, want, e)
		if e == api.OK {
			read++
			if Text(want) != s {
				t.Fatalf("Parse(%q) = %v, whose Text is %q", s, want, Text(want))
			}
		}
	}
	if read < 100 {
		t.Errorf("%d texts are read", read)
	}
}

// Re3

func TestRe3SubtractingWhatWasAdded(t *testing.T) {
	pairs(func(a, b api.Res) {
		if sum, ok := Add(a, b); ok {
			r, ok := Sub(sum, b)
			same(t, "Sub", sum, b, r, ok, a, true)
			r, ok = Sub(sum, a)
			same(t, "Sub", sum, a, r, ok, b, true)
		}
		if left, ok := Sub(a, b); ok {
			r, ok := Add(left, b)
			same(t, "Add", left, b, r, ok, a, true)
		}
	})
}

// Of valid vectors, exactly what fits can be subtracted; of others nothing can be.
func TestRe3WhatFitsCanBeSubtracted(t *testing.T) {
	fits := 0
	pairs(func(a, b api.Res) {
		_, ok := Sub(a, b)
		if want := Right(a) && Right(b) && Fits(b, a); ok != want {
			t.Fatalf("Sub(%v, %v) is %t, but Fits is %t", a, b, ok, Fits(b, a))
		}
		if ok {
			fits++
		}
	})
	if fits < 1000 {
		t.Errorf("%d fit", fits)
	}
}

// What was added fits into the sum, in either order, and the order of the two doesn't matter.
func TestRe3WhatWasAddedFits(t *testing.T) {
	pairs(func(a, b api.Res) {
		sum, ok := Add(a, b)
		other, same := Add(b, a)
		if sum != other || ok != same {
			t.Fatalf("Add of %v and %v", a, b)
		}
		if ok && (!Fits(a, sum) || !Fits(b, sum)) {
			t.Fatalf("%v and %v don't fit into %v", a, b, sum)
		}
	})
}
