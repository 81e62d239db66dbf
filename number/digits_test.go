package number_test

import (
	"iter"
	"math/big"
	"math/rand"
	"testing"

	"rill/number"
)

func eachOf(seed int64, times int, do func(x number.Number)) {
	source := rand.New(rand.NewSource(seed))
	for range times {
		do(number.Number{Re: fractionOf(source), Im: fractionOf(source)})
	}
}

// P6: no part is beyond 2^e, and with one less it would be.
func TestExponent(t *testing.T) {
	eachOf(6, 20000, func(x number.Number) {
		beyond := func(e int) bool {
			bound := big.NewRat(1<<e, 1)
			return new(big.Rat).Abs(ratOf(x.Re)).Cmp(bound) > 0 || new(big.Rat).Abs(ratOf(x.Im)).Cmp(bound) > 0
		}
		if e := number.Exponent(x); e < 0 || beyond(e) || e > 0 && !beyond(e-1) {
			t.Fatalf("Exponent(%v) = %d", x, e)
		}
	})
}

// nextOf tells a digit of r, and makes r what is left.
func nextOf(r *big.Rat) float64 {
	r.Add(r, r)
	half := big.NewRat(1, 2)
	switch {
	case r.Cmp(half) > 0:
		r.Sub(r, big.NewRat(1, 1))
		return 1
	case r.Cmp(half.Neg(half)) < 0:
		r.Add(r, big.NewRat(1, 1))
		return -1
	}
	return 0
}

// P6: digits as far as one asks, far beyond those that a call tells: nothing grows.
func TestDigits(t *testing.T) {
	eachOf(7, 2000, func(x number.Number) {
		unit := big.NewRat(1<<number.Exponent(x), 1)
		re, im := new(big.Rat).Quo(ratOf(x.Re), unit), new(big.Rat).Quo(ratOf(x.Im), unit)
		told := 0
		for digit := range number.Digits(x) {
			if want := complex(nextOf(re), nextOf(im)); digit != want {
				t.Fatalf("digit %d of %v is %v, want %v", told, x, digit, want)
			}
			if told++; told == 200 {
				break
			}
		}
	})
}

// Who has enough stops it, at any digit; and who begins anew is told the same ones.
func TestDigitsStop(t *testing.T) {
	x := number.Number{Re: number.Fraction{Num: 1, Den: 3}, Im: number.Fraction{Num: -1, Den: 1}}
	digits := number.Digits(x)
	for enough := 1; enough < 30; enough++ {
		told := 0
		digits(func(digit complex128) bool {
			if want := complex(float64(1-2*(told%2)), -1); digit != want {
				t.Errorf("digit %d is %v, want %v", told, digit, want)
			}
			told++
			return told < enough
		})
		if told != enough {
			t.Errorf("%d digits were told, %d are enough", told, enough)
		}
	}
}

// Two who ask by turns do not disturb each other.
func TestDigitsByTurns(t *testing.T) {
	digits := number.Digits(number.Number{Re: number.Fraction{Num: 1, Den: 3}, Im: number.Fraction{Num: 0, Den: 1}})
	one, stopOne := iter.Pull(digits)
	defer stopOne()
	other, stopOther := iter.Pull(digits)
	defer stopOther()
	one()
	for told := range 20 {
		first, _ := one()
		second, _ := other()
		if want := complex(float64(1-2*(told%2)), 0); second != want || first != -want {
			t.Errorf("the digits %d and %d are %v and %v", told, told+1, second, first)
		}
	}
}

// P7: at most 1/2 off, and if it is just 1/2, even.
func TestNear(t *testing.T) {
	isNear := func(whole int64, f number.Fraction, n int) bool {
		off := new(big.Rat).Mul(ratOf(f), big.NewRat(1<<n, 1))
		off.Abs(off.Sub(off, big.NewRat(whole, 1)))
		half := off.Cmp(big.NewRat(1, 2))
		return half < 0 || half == 0 && whole%2 == 0
	}
	eachOf(8, 5000, func(x number.Number) {
		for n := range 21 {
			if re, im := number.Near(x, n); !isNear(re, x.Re, n) || !isNear(im, x.Im, n) {
				t.Fatalf("Near(%v, %d) = %d %d", x, n, re, im)
			}
		}
	})
}
