// Package number: numbers of two parts, reckoned exactly, with fractions that must not become too big, and told digit by digit, as DOC.md's 'Words' say it.
package number

// maxPart is how great a numerator, above or below 0, and a denominator may be.
const maxPart = 999999

// Fraction is in lowest terms, its denominator above 0. (The zero value is none: it stands where there is no number.)
type Fraction struct{ Num, Den int64 }

func (f Fraction) isZero() bool { return f.Num == 0 }

func (f Fraction) negated() Fraction { return Fraction{-f.Num, f.Den} }

func (f Fraction) tooBig() bool { return f.Num > maxPart || f.Num < -maxPart || f.Den > maxPart }

// reckoner makes the fractions on the way to a number, and remembers whether one of them was too big: what is made behind that one is still a fraction, but means nothing.
type reckoner struct{ big bool }

// lowest is handed at most the sum of two products of what is not too big, so nothing wraps round.
func (r *reckoner) lowest(num, den int64) Fraction {
	common := commonDivisor(num, den)
	f := Fraction{num / common, den / common}
	if f.tooBig() {
		r.big = true
		return Fraction{0, 1}
	}
	return f
}

func (r *reckoner) plus(a, b Fraction) Fraction {
	return r.lowest(a.Num*b.Den+b.Num*a.Den, a.Den*b.Den)
}

func (r *reckoner) less(a, b Fraction) Fraction { return r.plus(a, b.negated()) }

func (r *reckoner) times(a, b Fraction) Fraction { return r.lowest(a.Num*b.Num, a.Den*b.Den) }

// commonDivisor is the greatest one, above 0; den is above 0.
func commonDivisor(num, den int64) int64 {
	a, b := max(num, -num), den
	for b != 0 {
		a, b = b, a%b
	}
	return a
}
