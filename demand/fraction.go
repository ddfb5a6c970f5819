package demand

import (
	"coilrack/api"
	"coilrack/terms"
)

// Add is the sum of two fractions.
func Add(a, b api.Fraction) (api.Fraction, api.Errno) {
	if !isFraction(a) || !isFraction(b) {
		return api.Fraction{}, api.ErrForm
	}
	sum := lowest(a.Num*b.Den+b.Num*a.Den, a.Den*b.Den)
	if !inBounds(sum) {
		return api.Fraction{}, api.ErrLarge
	}
	return sum, api.OK
}

// isFraction reports whether a fraction can be added.
func isFraction(f api.Fraction) bool {
	return inBounds(f) && f == lowest(f.Num, f.Den)
}

// inBounds reports whether Num and Den are not too great, and Den is above 0.
func inBounds(f api.Fraction) bool {
	return terms.Between(f.Den, 1, maxTerm) && terms.Between(f.Num, -maxTerm, maxTerm)
}

// over is a divided by b, which is above 0.
func over(a, b api.Fraction) api.Fraction { return lowest(a.Num*b.Den, a.Den*b.Num) }

// lowest is num divided by den, which is above 0, in lowest terms.
func lowest(num, den int) api.Fraction {
	n := divisor(max(num, -num), den)
	return api.Fraction{Num: num / n, Den: den / n}
}

// divisor is the greatest number that divides both a and b, of which b is above 0.
func divisor(a, b int) int {
	for a > 0 {
		a, b = b%a, a
	}
	return b
}
