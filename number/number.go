package number

import "errors"

// Why an operation cannot be made.
var (
	ErrZero = errors.New("divided by 0")
	ErrBig  = errors.New("a fraction on the way is too big")
)

// Number has two parts.
type Number struct{ Re, Im Fraction }

// OfQuarters is so many quarters, without an imaginary part.
func OfQuarters(count int) Number {
	var r reckoner
	return Number{r.lowest(int64(count), 4), Fraction{0, 1}}
}

// Unit is i.
func Unit() Number { return Number{Fraction{0, 1}, Fraction{1, 1}} }

// Negate and Conjugate make no fraction on their way, so they never fail.
func Negate(x Number) Number { return Number{x.Re.negated(), x.Im.negated()} }

func Conjugate(x Number) Number { return Number{x.Re, x.Im.negated()} }

func Add(x, y Number) (Number, error) {
	var r reckoner
	return r.number(r.plus(x.Re, y.Re), r.plus(x.Im, y.Im))
}

func Subtract(x, y Number) (Number, error) {
	var r reckoner
	return r.number(r.less(x.Re, y.Re), r.less(x.Im, y.Im))
}

func Multiply(x, y Number) (Number, error) {
	var r reckoner
	re := r.less(r.times(x.Re, y.Re), r.times(x.Im, y.Im))
	im := r.plus(r.times(x.Re, y.Im), r.times(x.Im, y.Re))
	return r.number(re, im)
}

// Divide goes the document's way step by step, for each fraction on it may be too big, even if the result is not.
func Divide(x, y Number) (Number, error) {
	if y.Re.isZero() && y.Im.isZero() {
		return Number{}, ErrZero
	}
	var r reckoner
	size := r.plus(r.times(y.Re, y.Re), r.times(y.Im, y.Im))
	if r.big {
		return Number{}, ErrBig
	}
	inverse := Fraction{size.Den, size.Num}
	re := r.times(r.plus(r.times(x.Re, y.Re), r.times(x.Im, y.Im)), inverse)
	im := r.times(r.less(r.times(x.Im, y.Re), r.times(x.Re, y.Im)), inverse)
	return r.number(re, im)
}

// number is asked when all fractions are made.
func (r *reckoner) number(re, im Fraction) (Number, error) {
	if r.big {
		return Number{}, ErrBig
	}
	return Number{re, im}, nil
}
