// Package num: numbers: see doc/01-num.md.
package num

import "dutyroster/api"

// maxList: how many numbers Lcm takes.
const maxList = 100

// Down: P1.1.
func Down(a, b int) (int, api.Errno) {
	if !canDivide(a, b) {
		return 0, api.ErrArg
	}
	return floor(a, b), api.OK
}

// Up: P1.1.
func Up(a, b int) (int, api.Errno) {
	if !canDivide(a, b) {
		return 0, api.ErrArg
	}
	return -floor(-a, b), api.OK
}

// Gcd: P1.2.
func Gcd(a, b int) (int, api.Errno) {
	if !within(a, 0, api.MaxNum) || !within(b, 0, api.MaxNum) {
		return 0, api.ErrArg
	}
	return gcd(a, b), api.OK
}

// Parts: P1.2.
func Parts(a, b int) (int, int, api.Errno) {
	if !within(a, 1, api.MaxNum) || !within(b, 1, api.MaxNum) {
		return 0, 0, api.ErrArg
	}
	g, x, y := combine(a, b)
	stepX, stepY := b/g, a/g
	// All pairs with the same sum lie whole steps apart, so the least x from 0 on is what x leaves by its step.
	turns := floor(x, stepX)
	return x - turns*stepX, y + turns*stepY, api.OK
}

// Lcm: P1.3.
func Lcm(l []int) (int, api.Errno) {
	if len(l) > maxList {
		return 0, api.ErrLarge
	}
	// A wrong number is told ahead of a result that is too great, so all are looked at first.
	for _, x := range l {
		if !within(x, 1, api.MaxNum) {
			return 0, api.ErrArg
		}
	}
	all := 1
	for _, x := range l {
		missing := x / gcd(all, x)
		// The product itself might not fit an int.
		if missing > api.MaxNum/all {
			return 0, api.ErrFull
		}
		all *= missing
	}
	return all, api.OK
}

// Meet: P1.4.
func Meet(a, m, b, n int) (int, api.Errno) {
	if !within(m, 1, api.MaxFrame) || !within(n, 1, api.MaxFrame) {
		return 0, api.ErrArg
	}
	if !within(a, 0, m-1) || !within(b, 0, n-1) {
		return 0, api.ErrArg
	}
	g, x, _ := combine(m, n)
	if (b-a)%g != 0 {
		return 0, api.ErrNone
	}
	// x times m leaves g by n, so that a and so many m more leave b by n. MaxFrame keeps the product far within an int.
	turns := rest((b-a)/g*x, n/g)
	return a + turns*m, api.OK
}

func within(x, low, high int) bool {
	return low <= x && x <= high
}

func canDivide(a, b int) bool {
	return within(a, -api.MaxNum, api.MaxNum) && within(b, 1, api.MaxNum)
}

// floor is for b from 1 on. Go's own division rounds towards 0, which is up for what is below 0.
func floor(a, b int) int {
	if a%b < 0 {
		return a/b - 1
	}
	return a / b
}

// rest is for b from 1 on, and is never below 0, as Go's own % may be.
func rest(a, b int) int {
	return a - floor(a, b)*b
}

func gcd(a, b int) int {
	for b != 0 {
		a, b = b, a%b
	}
	return a
}

// combine answers the gcd g of a and b, both from 1 on, and x and y such that x times a and y times b are g together.
// x never gets beyond b/g, nor y beyond a/g, on either side of 0: that is why nothing here needs more than an int.
func combine(a, b int) (int, int, int) {
	x, y := 1, 0
	nextX, nextY := 0, 1
	for b != 0 {
		q := a / b
		a, b = b, a%b
		x, nextX = nextX, x-q*nextX
		y, nextY = nextY, y-q*nextY
	}
	return a, x, y
}
