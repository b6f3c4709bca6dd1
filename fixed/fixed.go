// Package fixed has fixed-point numbers: an int x is x / 2^32, and what is out of bounds is cut at api.Most and api.Least.
package fixed

import (
	"math/bits"

	"lysimeter/api"
)

// shift is how many bits of a number are behind the point.
const shift = 32

// fraction masks the bits behind the point.
const fraction = api.One - 1

// beyond is the first size that no positive number has; a negative one of that size is just api.Least.
const beyond = 1 << 63

// Add is the sum.
func Add(a, b int) int {
	if b > 0 && a > api.Most-b {
		return api.Most
	}
	if b < 0 && a < api.Least-b {
		return api.Least
	}
	return a + b
}

// Sub is the difference. (Not Add of the opposite: that of api.Least is cut.)
func Sub(a, b int) int {
	if b < 0 && a > api.Most+b {
		return api.Most
	}
	if b > 0 && a < api.Least+b {
		return api.Least
	}
	return a - b
}

// Neg is the opposite.
func Neg(a int) int {
	return Sub(0, a)
}

// Mul is the product, rounded down.
func Mul(a, b int) int {
	high, low := bits.Mul64(size(a), size(b))
	if high>>shift != 0 {
		return cut(opposed(a, b), beyond)
	}
	round := rounding(false)
	return round(opposed(a, b), high<<shift|low>>shift, low&fraction)
}

// Div is the quotient, rounded down.
func Div(a, b int) int {
	return divide(a, b, rounding(false))
}

// CeilDiv is the quotient, rounded up.
func CeilDiv(a, b int) int {
	return divide(a, b, rounding(true))
}

// Of is the fixed-point number of the whole number n.
func Of(n int) int {
	if n > api.Most>>shift {
		return api.Most
	}
	if n < api.Least>>shift {
		return api.Least
	}
	return n << shift
}

// Floor is the greatest whole number that is not above x.
func Floor(x int) int {
	// A shift of an int keeps its sign, and so goes down below 0, too, where a division would go up.
	return x >> shift
}

// Ceil is the least whole number that is not below x.
func Ceil(x int) int {
	if x&fraction != 0 {
		return Floor(x) + 1
	}
	return Floor(x)
}

// Clamp is x within low and high; low is asked first, which tells where low is above high.
func Clamp(x, low, high int) int {
	if x < low {
		return low
	}
	if x > high {
		return high
	}
	return x
}

// divide is the quotient, its rest told to round.
func divide(a, b int, round func(negative bool, whole, rest uint64) int) int {
	if b == 0 {
		return bySign(a)
	}
	negative := opposed(a, b)
	high, low := size(a)>>shift, size(a)<<shift
	if high >= size(b) { // the quotient has more than one word, which Div64 refuses
		return cut(negative, beyond)
	}
	whole, rest := bits.Div64(high, low, size(b))
	return round(negative, whole, rest)
}

// bySign is what a quotient by 0 is.
func bySign(a int) int {
	switch {
	case a > 0:
		return api.Most
	case a < 0:
		return api.Least
	}
	return 0
}

// rounding makes the rounding up, or else down, of a number that is told by its sign, its size and what is left of that. Sizes are rounded towards 0 already: the rounding goes away from 0 where its own way does.
func rounding(up bool) func(negative bool, whole, rest uint64) int {
	return func(negative bool, whole, rest uint64) int {
		// At beyond the number is cut whatever is left, and one more could pass the word's end.
		if rest != 0 && negative != up && whole < beyond {
			whole++
		}
		return cut(negative, whole)
	}
}

// cut is the number of that sign and size, cut.
func cut(negative bool, whole uint64) int {
	switch {
	case whole >= beyond && negative:
		return api.Least
	case whole >= beyond:
		return api.Most
	case negative:
		return -int(whole)
	}
	return int(whole)
}

// size is how far x is from 0; as a word, since that of api.Least is no int.
func size(x int) uint64 {
	if x < 0 {
		return -uint64(x)
	}
	return uint64(x)
}

// opposed tells whether just one of a and b is below 0.
func opposed(a, b int) bool {
	return (a < 0) != (b < 0)
}
