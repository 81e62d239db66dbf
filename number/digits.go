package number

import "iter"

// Exponent is the least number e from 0 on so that no part is above 2^e or below -2^e.
func Exponent(x Number) int {
	e := 0
	for !x.Re.within(e) || !x.Im.within(e) {
		e++
	}
	return e
}

// within says whether a fraction is neither above 2^e nor below -2^e.
func (f Fraction) within(e int) bool {
	bound := f.Den << e
	return -bound <= f.Num && f.Num <= bound
}

// Digits hands out the digits of a number, one by one: each is -1, 0 or 1 in both parts. They have no end: who has enough stops.
func Digits(x Number) iter.Seq[complex128] {
	return func(yield func(complex128) bool) {
		e := Exponent(x)
		re, im := x.Re.untold(e), x.Im.untold(e)
		for yield(complex(re.next(), im.next())) {
		}
	}
}

// rest is what of a part is not told yet: left by unit, from -1 to 1. Whole numbers, for a float could not be exact here; and since left never goes beyond unit, they do not grow.
type rest struct{ left, unit int64 }

// untold is a fraction by 2^e, ahead of its first digit.
func (f Fraction) untold(e int) rest { return rest{f.Num, f.Den << e} }

// next tells one more digit. (A float, as the parts of a complex number are; -1, 0 and 1 are exact.)
func (r *rest) next() float64 {
	r.left *= 2
	switch {
	case 2*r.left > r.unit:
		r.left -= r.unit
		return 1
	case 2*r.left < -r.unit:
		r.left += r.unit
		return -1
	}
	return 0
}
