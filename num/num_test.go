package num_test

import (
	"math"
	"math/big"
	"math/rand"
	"slices"
	"testing"

	"dutyroster/api"
	"dutyroster/num"
)

const (
	top   = api.MaxNum
	frame = api.MaxFrame
)

// edges stand on both sides of each bound that the chapter names, and at the ends of an int.
var edges = []int{
	math.MinInt, math.MinInt + 1, -top - 1, -top, -top + 1, -frame - 1, -2, -1, 0, 1, 2, 3,
	frame - 1, frame, frame + 1, top - 1, top, top + 1, math.MaxInt - 1, math.MaxInt,
}

func within(x, low, high int) bool { return low <= x && x <= high }

func wide(x int) *big.Int { return big.NewInt(int64(x)) }

// sameSum says whether x times a and y times b are g together, however great the products are.
func sameSum(x, a, y, b, g int) bool {
	left := new(big.Int).Mul(wide(x), wide(a))
	right := new(big.Int).Mul(wide(y), wide(b))
	return left.Add(left, right).Cmp(wide(g)) == 0
}

// P1.1

func checkQuotients(t *testing.T, a, b int) {
	t.Helper()
	down, e := num.Down(a, b)
	up, f := num.Up(a, b)
	if !within(a, -top, top) || !within(b, 1, top) {
		if down != 0 || up != 0 || e != api.ErrArg || f != api.ErrArg {
			t.Errorf("%d by %d: %d %v, %d %v, want ErrArg", a, b, down, e, up, f)
		}
		return
	}
	if e != api.OK || f != api.OK {
		t.Errorf("%d by %d: errors %v, %v", a, b, e, f)
		return
	}
	// What is left stays on its side of 0, and is less than b: that is true of one number only.
	if left := a - down*b; left < 0 || left >= b {
		t.Errorf("Down(%d, %d) = %d", a, b, down)
	}
	if over := up*b - a; over < 0 || over >= b {
		t.Errorf("Up(%d, %d) = %d", a, b, up)
	}
}

func TestDownAndUpRoundTheirWays(t *testing.T) {
	for _, c := range []struct{ a, b, down, up int }{
		{7, 2, 3, 4}, {-7, 2, -4, -3}, {6, 3, 2, 2}, {-6, 3, -2, -2}, {0, 9, 0, 0},
		{1, top, 0, 1}, {-1, top, -1, 0}, {top, 1, top, top}, {-top, 1, -top, -top},
		{top, top, 1, 1}, {-top, top, -1, -1}, {top - 1, top, 0, 1}, {1 - top, top, -1, 0},
		{top, top - 1, 1, 2}, {-top, top - 1, -2, -1},
	} {
		down, e := num.Down(c.a, c.b)
		up, f := num.Up(c.a, c.b)
		if down != c.down || up != c.up || e != api.OK || f != api.OK {
			t.Errorf("%d by %d: %d %v, %d %v, want %d, %d", c.a, c.b, down, e, up, f, c.down, c.up)
		}
	}
	for a := -60; a <= 60; a++ {
		for b := -2; b <= 30; b++ {
			checkQuotients(t, a, b)
		}
	}
}

func TestDownAndUpAtTheirBounds(t *testing.T) {
	for _, a := range edges {
		for _, b := range edges {
			checkQuotients(t, a, b)
		}
	}
}

// P1.2

func slowGcd(a, b int) int {
	for g := max(a, b); g > 0; g-- {
		if a%g == 0 && b%g == 0 {
			return g
		}
	}
	return 0
}

func checkGcd(t *testing.T, a, b, want int) {
	t.Helper()
	if g, e := num.Gcd(a, b); g != want || e != api.OK {
		t.Errorf("Gcd(%d, %d) = %d, %v, want %d", a, b, g, e, want)
	}
}

// checkParts holds X to be the least one: all others are whole steps of b/g away from it.
func checkParts(t *testing.T, a, b, g int) {
	t.Helper()
	x, y, e := num.Parts(a, b)
	if e != api.OK || x < 0 || x >= b/g || !sameSum(x, a, y, b, g) {
		t.Errorf("Parts(%d, %d) = %d, %d, %v for %d", a, b, x, y, e, g)
	}
}

func TestGcdAndPartsOfSmallNumbers(t *testing.T) {
	for a := 0; a <= 60; a++ {
		for b := 0; b <= 60; b++ {
			g := slowGcd(a, b)
			checkGcd(t, a, b, g)
			if a > 0 && b > 0 {
				checkParts(t, a, b, g)
				checkNoLessPart(t, a, b, g)
			}
		}
	}
}

// checkNoLessPart tries each X below the answer.
func checkNoLessPart(t *testing.T, a, b, g int) {
	t.Helper()
	x, _, _ := num.Parts(a, b)
	for less := range x {
		if (g-less*a)%b == 0 {
			t.Errorf("Parts(%d, %d): %d, but %d will do", a, b, x, less)
		}
	}
}

func TestGcdOfNothing(t *testing.T) {
	checkGcd(t, 0, 0, 0)
	checkGcd(t, 0, top, top)
	checkGcd(t, top, 0, top)
	checkGcd(t, 0, 1, 1)
	checkGcd(t, top, top, top)
}

func TestParts(t *testing.T) {
	for _, c := range []struct{ a, b, x, y int }{
		{12, 18, 2, -1}, {18, 12, 1, -1}, {7, 5, 3, -4}, {5, 7, 3, -2}, {5, 5, 0, 1}, {1, 9, 1, 0}, {9, 1, 0, 1},
		{1, 1, 0, 1}, {6, 3, 0, 1}, {3, 6, 1, 0}, {top, top, 0, 1}, {top, 1, 0, 1}, {1, top, 1, 0},
		{top, top - 1, 1, -1}, {top - 1, top, top - 1, 2 - top}, {top, 2, 0, 1}, {2, top, 1, 0},
	} {
		x, y, e := num.Parts(c.a, c.b)
		if x != c.x || y != c.y || e != api.OK {
			t.Errorf("Parts(%d, %d) = %d, %d, %v, want %d, %d", c.a, c.b, x, y, e, c.x, c.y)
		}
	}
}

func TestGcdAndPartsOfGreatNumbers(t *testing.T) {
	source := rand.New(rand.NewSource(1))
	for range 20000 {
		shared := 1 << source.Intn(40)
		a := (1 + source.Intn(top/shared)) * shared
		b := (1 + source.Intn(top/shared)) * shared
		g := int(new(big.Int).GCD(nil, nil, wide(a), wide(b)).Int64())
		checkGcd(t, a, b, g)
		checkParts(t, a, b, g)
	}
	// Two numbers of Fibonacci's in a row take the most steps of all.
	a, b := 1, 2
	for b <= top {
		checkGcd(t, a, b, 1)
		checkParts(t, a, b, 1)
		checkParts(t, b, a, 1)
		a, b = b, a+b
	}
}

func TestGcdAndPartsAtTheirBounds(t *testing.T) {
	for _, a := range edges {
		for _, b := range edges {
			g, e := num.Gcd(a, b)
			bad := !within(a, 0, top) || !within(b, 0, top)
			if bad != (e == api.ErrArg) || bad && g != 0 || !bad && e != api.OK {
				t.Errorf("Gcd(%d, %d) = %d, %v", a, b, g, e)
			}
			if within(a, 1, top) && within(b, 1, top) {
				checkParts(t, a, b, g)
				continue
			}
			if x, y, e := num.Parts(a, b); x != 0 || y != 0 || e != api.ErrArg {
				t.Errorf("Parts(%d, %d) = %d, %d, %v, want ErrArg", a, b, x, y, e)
			}
		}
	}
}

// P1.3

func times(n, x int) []int { return slices.Repeat([]int{x}, n) }

func TestLcm(t *testing.T) {
	const prime = 1099511627689 // the greatest below MaxNum
	for _, c := range []struct {
		l    []int
		want int
		err  api.Errno
	}{
		{nil, 1, api.OK},
		{[]int{}, 1, api.OK},
		{[]int{1}, 1, api.OK},
		{[]int{4, 6, 10}, 60, api.OK},
		{[]int{6, 4}, 12, api.OK},
		{[]int{5, 5, 5}, 5, api.OK},
		{[]int{top}, top, api.OK},
		{[]int{top, top, 2, 1 << 39}, top, api.OK},
		{[]int{1 << 20, 1<<20 - 1}, 1<<40 - 1<<20, api.OK},
		{[]int{1 << 20, 1<<20 + 1}, 0, api.ErrFull},
		{[]int{prime, 1, prime}, prime, api.OK},
		{[]int{prime, 2}, 0, api.ErrFull},
		{[]int{3, top}, 0, api.ErrFull},
		{[]int{top, 3}, 0, api.ErrFull},
		{[]int{top, top - 1}, 0, api.ErrFull},
		{[]int{top - 1, top}, 0, api.ErrFull},
		{[]int{1 << 32, 1<<32 - 1}, 0, api.ErrFull},
		{[]int{3, 0}, 0, api.ErrArg},
		{[]int{-1}, 0, api.ErrArg},
		{[]int{top + 1}, 0, api.ErrArg},
		{[]int{math.MaxInt}, 0, api.ErrArg},
		{[]int{math.MinInt}, 0, api.ErrArg},
		{times(100, 7), 7, api.OK},
		{times(101, 7), 0, api.ErrLarge},
		{times(1000, 1), 0, api.ErrLarge},
	} {
		if m, e := num.Lcm(c.l); m != c.want || e != c.err {
			t.Errorf("Lcm(%v) = %d, %v, want %d, %v", c.l, m, e, c.want, c.err)
		}
	}
}

func TestLcmTellsTheFirstError(t *testing.T) {
	if m, e := num.Lcm(times(101, 0)); m != 0 || e != api.ErrLarge {
		t.Error("too many ahead of wrong ones:", m, e)
	}
	if m, e := num.Lcm([]int{top, top - 1, 0}); m != 0 || e != api.ErrArg {
		t.Error("a wrong one ahead of a result too great:", m, e)
	}
	if m, e := num.Lcm(append(times(99, top), top+1)); m != 0 || e != api.ErrArg {
		t.Error("the last of a hundred:", m, e)
	}
}

func TestLcmAgainstBigNumbers(t *testing.T) {
	source := rand.New(rand.NewSource(2))
	for range 20000 {
		l := make([]int, source.Intn(6))
		for i := range l {
			l[i] = 1 + source.Intn(1<<(1+source.Intn(22)))
		}
		all := big.NewInt(1)
		for _, x := range l {
			g := new(big.Int).GCD(nil, nil, all, wide(x))
			all.Mul(all, new(big.Int).Div(wide(x), g))
		}
		want, err := 0, api.ErrFull
		if all.Cmp(wide(top)) <= 0 {
			want, err = int(all.Int64()), api.OK
		}
		if m, e := num.Lcm(l); m != want || e != err {
			t.Errorf("Lcm(%v) = %d, %v, want %d, %v", l, m, e, want, err)
		}
	}
}

// P1.4

// slowMeet looks at each number of one round.
func slowMeet(a, m, b, n int) (int, api.Errno) {
	for x := range m * n {
		if x%m == a && x%n == b {
			return x, api.OK
		}
	}
	return 0, api.ErrNone
}

func TestMeetOfSmallNumbers(t *testing.T) {
	for m := 1; m <= 18; m++ {
		for n := 1; n <= 18; n++ {
			for a := range m {
				for b := range n {
					want, err := slowMeet(a, m, b, n)
					if x, e := num.Meet(a, m, b, n); x != want || e != err {
						t.Errorf("Meet(%d, %d, %d, %d) = %d, %v, want %d, %v", a, m, b, n, x, e, want, err)
					}
				}
			}
		}
	}
}

// checkMeet holds the answer to leave a and b, and to lie in the one round in which there is one such number.
func checkMeet(t *testing.T, a, m, b, n int) {
	t.Helper()
	x, e := num.Meet(a, m, b, n)
	if !within(m, 1, frame) || !within(n, 1, frame) || a < 0 || a >= m || b < 0 || b >= n {
		if x != 0 || e != api.ErrArg {
			t.Errorf("Meet(%d, %d, %d, %d) = %d, %v, want ErrArg", a, m, b, n, x, e)
		}
		return
	}
	g := int(new(big.Int).GCD(nil, nil, wide(m), wide(n)).Int64())
	if a%g != b%g {
		if x != 0 || e != api.ErrNone {
			t.Errorf("Meet(%d, %d, %d, %d) = %d, %v, want ErrNone", a, m, b, n, x, e)
		}
		return
	}
	if e != api.OK || x < 0 || x >= m/g*n || x%m != a || x%n != b {
		t.Errorf("Meet(%d, %d, %d, %d) = %d, %v", a, m, b, n, x, e)
	}
}

func TestMeetOfGreatNumbers(t *testing.T) {
	source := rand.New(rand.NewSource(3))
	for range 50000 {
		shared := 1 + source.Intn(20)
		m := (1 + source.Intn(frame/shared)) * shared
		n := (1 + source.Intn(frame/shared)) * shared
		checkMeet(t, source.Intn(m), m, source.Intn(n), n)
		common := source.Intn(m * n)
		checkMeet(t, common%m, m, common%n, n)
	}
}

func TestMeetAtItsBounds(t *testing.T) {
	for _, m := range edges {
		for _, n := range edges {
			for _, a := range append([]int{m - 1, m}, edges...) {
				for _, b := range append([]int{n - 1, n}, edges...) {
					checkMeet(t, a, m, b, n)
				}
			}
		}
	}
	if x, e := num.Meet(999998, 999999, 0, 1000000); x != 999998000000 || e != api.OK {
		t.Error(x, e)
	}
	if x, e := num.Meet(999998, 999999, 999999, 1000000); x != 999999*1000000-1 || e != api.OK {
		t.Error(x, e)
	}
}

// P1: the tests at the bounds above call all but Lcm with all edges; a panic ends them.

func TestLcmAlwaysAnswers(t *testing.T) {
	for _, a := range edges {
		for _, b := range edges {
			for _, c := range edges {
				m, e := num.Lcm([]int{a, b, c})
				if e != api.OK && m != 0 || e == api.OK && !within(m, 1, top) {
					t.Errorf("Lcm of %d, %d, %d: %d, %v", a, b, c, m, e)
				}
			}
		}
	}
}

// P2

func TestLcmLeavesItsListAlone(t *testing.T) {
	for _, l := range [][]int{{}, {4, 6, 10}, {10, 6, 4, 4}, {top, 3}, {3, 0, 5}, times(101, 2)} {
		room := append(slices.Clone(l), 77, 78, 79)
		before := slices.Clone(room)
		num.Lcm(room[:len(l)])
		if !slices.Equal(room, before) {
			t.Errorf("%v became %v", before, room)
		}
	}
}

func TestNothingIsKept(t *testing.T) {
	l := []int{4, 6}
	first, _ := num.Lcm(l)
	l[0] = 5
	second, _ := num.Lcm(l)
	num.Lcm([]int{top, 3})
	num.Lcm([]int{0})
	l[0] = 4
	third, e := num.Lcm(l)
	if first != 12 || second != 30 || third != 12 || e != api.OK {
		t.Error(first, second, third, e)
	}
	for range 3 {
		if x, e := num.Meet(2, 3, 3, 5); x != 8 || e != api.OK {
			t.Error(x, e)
		}
		num.Meet(0, 4, 1, 6)
		num.Down(math.MinInt, 0)
	}
}
