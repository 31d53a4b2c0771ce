// Package num: see doc/01-num.md.
package num

import "commonhold/api"

// whole: every kind of whole number, with a sign and without one.
type whole interface {
	~int | ~int8 | ~int16 | ~int32 | ~int64 |
		~uint | ~uint8 | ~uint16 | ~uint32 | ~uint64
}

// add gives the sum and whether it is still a number of its kind.
// What wraps round lands on the wrong side of a, so looking at one side is enough;
// of a kind without a sign no b is below 0, and the same look serves.
func add[T whole](a, b T) (T, bool) {
	sum := a + b
	return sum, (sum < a) == (b < 0)
}

// answer keeps a result only where it fits, since beside an error it has to be 0.
func answer(n int, fits bool) (int, api.Errno) {
	if !fits {
		return 0, api.ErrOver
	}
	return n, api.OK
}

// Add: the sum.
func Add(a, b int) (int, api.Errno) {
	return answer(add(a, b))
}

// Sub: the difference.
func Sub(a, b int) (int, api.Errno) {
	// Not a + -b: the least number has no negative.
	n := a - b
	return answer(n, (n > a) == (b < 0))
}

// Mul: the product.
func Mul(a, b int) (int, api.Errno) {
	if a == 0 || b == 0 {
		return 0, api.OK
	}
	n := a * b
	// Dividing back alone would miss the least number times -1, which wraps round to itself.
	sameSign := (n < 0) == ((a < 0) != (b < 0))
	return answer(n, sameSign && n/b == a)
}

// Neg: the negative.
func Neg(a int) (int, api.Errno) {
	return Sub(0, a)
}

// Div: the quotient, cut toward 0.
func Div(a, b int) (int, api.Errno) {
	if b == 0 {
		return 0, api.ErrZero
	}
	if b == -1 {
		// The only divisor whose quotient may be too great.
		return Neg(a)
	}
	return a / b, api.OK
}

// Mod: what the quotient leaves over, with the sign of a.
func Mod(a, b int) (int, api.Errno) {
	if b == 0 {
		return 0, api.ErrZero
	}
	// The language answers 0 for the least number and -1, as the document asks.
	return a % b, api.OK
}
