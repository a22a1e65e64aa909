package num

import (
	"math/big"
	"testing"

	"reeve/api"
)

// edges are the numbers at which a check is likeliest to be wrong: the ends, 0, the ends of ticks, and the factors whose products just fit or just do not.
func edges() []int {
	const root = 3037000499 // the greatest number whose square is a number
	near := []int{0, api.MinInt / 2, api.MaxInt / 2, api.MaxTick, -api.MaxTick, 1 << 31, -1 << 31, 1 << 32, -1 << 32, root, -root, api.MaxInt / 3, api.MinInt / 3}
	l := []int{api.MinInt, api.MinInt + 1, api.MinInt + 2, api.MaxInt, api.MaxInt - 1, api.MaxInt - 2}
	for _, n := range near {
		for by := -2; by <= 2; by++ {
			l = append(l, n+by)
		}
	}
	return l
}

// mixed are numbers of all lengths and both signs, the same in each run.
func mixed(many int) []int {
	var l []int
	x := uint64(1)
	for i := range many {
		x = x*6364136223846793005 + 1442695040888963407
		l = append(l, int(x)>>(i%64))
	}
	return l
}

func numbers() []int { return append(edges(), mixed(128)...) }

// exact is what a step on numbers of any size tells: the number, or 0 and false where it is none.
func exact(a, b int, step func(z, x, y *big.Int) *big.Int) (int, bool) {
	z := step(new(big.Int), big.NewInt(int64(a)), big.NewInt(int64(b)))
	if !z.IsInt64() {
		return 0, false
	}
	return int(z.Int64()), true
}

func same(t *testing.T, name string, args []int, n int, ok bool, want int, right bool) {
	t.Helper()
	if n != want || ok != right {
		t.Errorf("%s%v = %d, %t; want %d, %t", name, args, n, ok, want, right)
	}
}

// Nu1

func TestNu1Right(t *testing.T) {
	for _, c := range []struct {
		n, least, most int
		want           bool
	}{
		{3, 1, 5, true}, {1, 1, 5, true}, {5, 1, 5, true}, {0, 1, 5, false}, {6, 1, 5, false},
		{0, 0, 0, true}, {1, 0, 0, false}, {-1, 0, 0, false},
		{-3, -5, -1, true}, {-5, -5, -1, true}, {-1, -5, -1, true}, {-6, -5, -1, false}, {0, -5, -1, false},
		{api.MinInt, api.MinInt, api.MaxInt, true}, {api.MaxInt, api.MinInt, api.MaxInt, true}, {0, api.MinInt, api.MaxInt, true},
		{api.MinInt, api.MinInt + 1, api.MaxInt, false}, {api.MaxInt, api.MinInt, api.MaxInt - 1, false},
		{api.MinInt, api.MinInt, api.MinInt, true}, {api.MaxInt, api.MaxInt, api.MaxInt, true},
		{0, 0, api.MaxTick, true}, {api.MaxTick, 0, api.MaxTick, true}, {api.MaxTick + 1, 0, api.MaxTick, false}, {-1, 0, api.MaxTick, false},
	} {
		if got := Right(c.n, c.least, c.most); got != c.want {
			t.Errorf("Right(%d, %d, %d) = %t", c.n, c.least, c.most, got)
		}
	}
}

// Where the limits cross, there is no number between them.
func TestNu1RightCrossed(t *testing.T) {
	for _, n := range edges() {
		if Right(n, 5, 4) || Right(n, 7, 5) || Right(n, api.MaxInt, api.MinInt) {
			t.Errorf("Right(%d) is true between limits that cross", n)
		}
	}
}

func TestNu1Span(t *testing.T) {
	for _, c := range []struct{ n, least, most, want int }{
		{3, 1, 5, 3}, {1, 1, 5, 1}, {5, 1, 5, 5}, {0, 1, 5, 1}, {6, 1, 5, 5},
		{-9, -5, -1, -5}, {9, -5, -1, -1}, {0, 0, 0, 0}, {9, 0, 0, 0}, {-9, 0, 0, 0},
		{api.MinInt, 0, 5, 0}, {api.MaxInt, 0, 5, 5}, {api.MinInt, api.MinInt, api.MaxInt, api.MinInt}, {api.MaxInt, api.MinInt, api.MaxInt, api.MaxInt},
		{api.MaxInt, 0, api.MaxTick, api.MaxTick}, {api.MaxTick, 0, api.MaxTick, api.MaxTick}, {api.MaxTick + 1, 0, api.MaxTick, api.MaxTick}, {-1, 0, api.MaxTick, 0},
	} {
		if got := Span(c.n, c.least, c.most); got != c.want {
			t.Errorf("Span(%d, %d, %d) = %d; want %d", c.n, c.least, c.most, got, c.want)
		}
	}
}

// Where the limits cross, the least one is applied last, whatever the number.
func TestNu1SpanCrossed(t *testing.T) {
	for _, n := range edges() {
		for _, c := range [][2]int{{7, 5}, {1, 0}, {0, -1}, {api.MaxInt, api.MinInt}, {api.MaxTick, 0}} {
			if got := Span(n, c[0], c[1]); got != c[0] {
				t.Errorf("Span(%d, %d, %d) = %d; want %d", n, c[0], c[1], got, c[0])
			}
		}
	}
}

// Span leaves a number alone exactly where Right holds, and what it gives stands between the limits.
func TestNu1Agree(t *testing.T) {
	l := edges()
	for _, n := range l {
		for _, least := range l {
			for _, most := range l {
				got := Span(n, least, most)
				if Right(n, least, most) != (least <= n && n <= most) {
					t.Fatalf("Right(%d, %d, %d)", n, least, most)
				}
				if Right(n, least, most) && got != n {
					t.Fatalf("Span(%d, %d, %d) = %d moves a right number", n, least, most, got)
				}
				if least <= most && !Right(got, least, most) {
					t.Fatalf("Span(%d, %d, %d) = %d is not right", n, least, most, got)
				}
			}
		}
	}
}

// Nu2

func TestNu2Examples(t *testing.T) {
	n, ok := Add(api.MaxInt, 1)
	same(t, "Add", []int{api.MaxInt, 1}, n, ok, 0, false)
	n, ok = Add(api.MinInt, -1)
	same(t, "Add", []int{api.MinInt, -1}, n, ok, 0, false)
	n, ok = Sub(api.MinInt, 1)
	same(t, "Sub", []int{api.MinInt, 1}, n, ok, 0, false)
	n, ok = Sub(0, api.MinInt)
	same(t, "Sub", []int{0, api.MinInt}, n, ok, 0, false)
	n, ok = Sub(-1, api.MinInt)
	same(t, "Sub", []int{-1, api.MinInt}, n, ok, api.MaxInt, true)
	n, ok = Mul(api.MinInt, -1)
	same(t, "Mul", []int{api.MinInt, -1}, n, ok, 0, false)
	n, ok = Mul(-1, api.MinInt)
	same(t, "Mul", []int{-1, api.MinInt}, n, ok, 0, false)
	n, ok = Mul(api.MinInt, 1)
	same(t, "Mul", []int{api.MinInt, 1}, n, ok, api.MinInt, true)
	n, ok = Mul(-1<<32, 1<<31)
	same(t, "Mul", []int{-1 << 32, 1 << 31}, n, ok, api.MinInt, true)
	n, ok = Mul(1<<32, 1<<32) // wraps to exactly 0
	same(t, "Mul", []int{1 << 32, 1 << 32}, n, ok, 0, false)
}

// Each pair of numbers is held against numbers of any size.
func TestNu2Exact(t *testing.T) {
	l := numbers()
	for _, a := range l {
		for _, b := range l {
			n, ok := Add(a, b)
			want, right := exact(a, b, (*big.Int).Add)
			same(t, "Add", []int{a, b}, n, ok, want, right)
			n, ok = Sub(a, b)
			want, right = exact(a, b, (*big.Int).Sub)
			same(t, "Sub", []int{a, b}, n, ok, want, right)
			n, ok = Mul(a, b)
			want, right = exact(a, b, (*big.Int).Mul)
			same(t, "Mul", []int{a, b}, n, ok, want, right)
		}
	}
}

func TestNu2Sum(t *testing.T) {
	for _, c := range []struct {
		l    []int
		want int
		ok   bool
	}{
		{nil, 0, true}, {[]int{}, 0, true}, {[]int{7}, 7, true}, {[]int{1, 2, 3}, 6, true}, {[]int{5, -7}, -2, true},
		{[]int{api.MinInt}, api.MinInt, true}, {[]int{api.MaxInt}, api.MaxInt, true},
		{[]int{api.MinInt, api.MaxInt, 1}, 0, true}, {[]int{api.MaxInt, api.MinInt, -api.MaxInt}, api.MinInt, true},
		{[]int{api.MaxInt, 1}, 0, false}, {[]int{api.MinInt, -1}, 0, false},
	} {
		n, ok := Sum(c.l...)
		same(t, "Sum", c.l, n, ok, c.want, c.ok)
	}
}

// The order counts: a total that is a number does not make up for a step that is none.
func TestNu2SumInOrder(t *testing.T) {
	for _, c := range []struct {
		l    []int
		want int
		ok   bool
	}{
		{[]int{api.MaxInt, 1, -1}, 0, false}, {[]int{api.MaxInt, -1, 1}, api.MaxInt, true}, {[]int{1, -1, api.MaxInt}, api.MaxInt, true},
		{[]int{api.MinInt, -1, 1}, 0, false}, {[]int{api.MinInt, 1, -1}, api.MinInt, true}, {[]int{-1, api.MinInt, 1}, 0, false},
		{[]int{api.MaxInt, 1, 5}, 0, false}, // what comes behind the step that fails is not added to the 0
	} {
		n, ok := Sum(c.l...)
		same(t, "Sum", c.l, n, ok, c.want, c.ok)
	}
}

func TestNu2SumKeepsItsList(t *testing.T) {
	l := []int{3, api.MaxInt, 4}
	Sum(l...)
	if l[0] != 3 || l[1] != api.MaxInt || l[2] != 4 {
		t.Error("Sum changed its list:", l)
	}
}

func TestNu2Later(t *testing.T) {
	for _, c := range []struct{ tick, by, want int }{
		{5, 7, 12}, {0, 0, 0}, {5, 0, 5}, {0, 7, 7},
		{-1, 7, 7}, {5, -1, 5}, {-5, -7, 0}, {-5, 5, 5}, {api.MinInt, api.MinInt, 0}, {api.MinInt, 3, 3}, {3, api.MinInt, 3},
		{api.MaxTick - 1, 1, api.MaxTick}, {api.MaxTick, 0, api.MaxTick}, {api.MaxTick, 1, api.MaxTick}, {1, api.MaxTick, api.MaxTick}, {api.MaxTick, api.MaxTick, api.MaxTick},
		{api.MaxTick, -1, api.MaxTick}, {api.MaxTick + 1, -1, api.MaxTick}, {0, api.MaxTick - 1, api.MaxTick - 1},
		{api.MaxInt, api.MaxInt, api.MaxTick}, {api.MaxInt, api.MinInt, api.MaxTick}, {api.MinInt, api.MaxInt, api.MaxTick}, {api.MaxInt, 1, api.MaxTick},
	} {
		if got := Later(c.tick, c.by); got != c.want {
			t.Errorf("Later(%d, %d) = %d; want %d", c.tick, c.by, got, c.want)
		}
	}
}

// Nu3

func TestNu3SubtractingWhatWasAdded(t *testing.T) {
	l := numbers()
	for _, a := range l {
		for _, b := range l {
			sum, ok := Add(a, b)
			if !ok {
				continue
			}
			n, ok := Sub(sum, b)
			same(t, "Sub", []int{sum, b}, n, ok, a, true)
			n, ok = Sub(sum, a)
			same(t, "Sub", []int{sum, a}, n, ok, b, true)
		}
	}
}

func TestNu3OrderOfOperands(t *testing.T) {
	l := numbers()
	for _, a := range l {
		for _, b := range l {
			n, ok := Add(a, b)
			want, right := Add(b, a)
			same(t, "Add", []int{a, b}, n, ok, want, right)
			n, ok = Mul(a, b)
			want, right = Mul(b, a)
			same(t, "Mul", []int{a, b}, n, ok, want, right)
		}
	}
}

// repeated is a number added so many times to 0, or subtracted where the count is negative, as long as each step is a number.
func repeated(n, times int) (int, bool) {
	step := Add
	if times < 0 {
		step, times = Sub, -times
	}
	total, ok := 0, true
	for range times {
		if total, ok = step(total, n); !ok {
			return 0, false
		}
	}
	return total, true
}

func TestNu3ProductIsRepeatedSum(t *testing.T) {
	for _, n := range numbers() {
		for times := -9; times <= 9; times++ {
			want, right := repeated(n, times)
			got, ok := Mul(n, times)
			same(t, "Mul", []int{n, times}, got, ok, want, right)
		}
	}
}

func TestNu3SumOfEqualsIsProduct(t *testing.T) {
	for _, n := range numbers() {
		var l []int
		for times := range 10 {
			want, right := Mul(n, times)
			got, ok := Sum(l...)
			same(t, "Sum", l, got, ok, want, right)
			l = append(l, n)
		}
	}
}
