package number_test

import (
	"errors"
	"math/big"
	"math/rand"
	"testing"

	"rill/number"
)

// wide reckons with the library's fractions, which have no bound, and remembers whether one was too big.
type wide struct{ big bool }

func ratOf(f number.Fraction) *big.Rat { return big.NewRat(f.Num, f.Den) }

func (w *wide) way(x *big.Rat) *big.Rat {
	bound := big.NewInt(999999)
	w.big = w.big || x.Num().CmpAbs(bound) > 0 || x.Denom().Cmp(bound) > 0
	return x
}

func (w *wide) add(x, y *big.Rat) *big.Rat { return w.way(new(big.Rat).Add(x, y)) }
func (w *wide) sub(x, y *big.Rat) *big.Rat { return w.way(new(big.Rat).Sub(x, y)) }
func (w *wide) mul(x, y *big.Rat) *big.Rat { return w.way(new(big.Rat).Mul(x, y)) }

// operate answers the two parts that a sign comes to.
func (w *wide) operate(sign rune, x, y number.Number) (*big.Rat, *big.Rat) {
	a, b, c, d := ratOf(x.Re), ratOf(x.Im), ratOf(y.Re), ratOf(y.Im)
	switch sign {
	case '+':
		return w.add(a, c), w.add(b, d)
	case '−':
		return w.sub(a, c), w.sub(b, d)
	case '×':
		return w.sub(w.mul(a, c), w.mul(b, d)), w.add(w.mul(a, d), w.mul(b, c))
	}
	inverse := w.way(new(big.Rat).Inv(w.add(w.mul(c, c), w.mul(d, d))))
	return w.mul(w.add(w.mul(a, c), w.mul(b, d)), inverse), w.mul(w.sub(w.mul(b, c), w.mul(a, d)), inverse)
}

// fractionOf is in lowest terms, and of few or of many digits.
func fractionOf(some *rand.Rand) number.Fraction {
	within := func() int64 {
		switch some.Intn(4) {
		case 0:
			return 999999 - int64(some.Intn(3))
		case 1:
			return int64(some.Intn(1000000))
		case 2:
			return int64(some.Intn(1100))
		}
		return int64(some.Intn(4))
	}
	x := big.NewRat(within(), max(1, within()))
	if some.Intn(2) == 0 {
		x.Neg(x)
	}
	return number.Fraction{Num: x.Num().Int64(), Den: x.Denom().Int64()}
}

func operations() map[rune]func(x, y number.Number) (number.Number, error) {
	return map[rune]func(x, y number.Number) (number.Number, error){'+': number.Add, '−': number.Subtract, '×': number.Multiply, '÷': number.Divide}
}

// P5: exact up to the bounds, and nothing wraps round beyond them.
func TestOperations(t *testing.T) {
	some := rand.New(rand.NewSource(3))
	made := map[rune]int{}
	for range 100000 {
		x := number.Number{Re: fractionOf(some), Im: fractionOf(some)}
		y := number.Number{Re: fractionOf(some), Im: fractionOf(some)}
		for sign, operation := range operations() {
			got, err := operation(x, y)
			if sign == '÷' && y.Re.Num == 0 && y.Im.Num == 0 {
				if got != (number.Number{}) || !errors.Is(err, number.ErrZero) {
					t.Fatalf("%v %c %v = %v %v, want ErrZero", x, sign, y, got, err)
				}
				continue
			}
			var w wide
			re, im := w.operate(sign, x, y)
			if w.big {
				if got != (number.Number{}) || !errors.Is(err, number.ErrBig) {
					t.Fatalf("%v %c %v = %v %v, want ErrBig", x, sign, y, got, err)
				}
				continue
			}
			want := number.Number{Re: number.Fraction{Num: re.Num().Int64(), Den: re.Denom().Int64()}, Im: number.Fraction{Num: im.Num().Int64(), Den: im.Denom().Int64()}}
			if got != want || err != nil {
				t.Fatalf("%v %c %v = %v %v, want %v", x, sign, y, got, err, want)
			}
			made[sign]++
		}
	}
	for sign := range operations() {
		if made[sign] < 300 {
			t.Errorf("%c was made %d times only", sign, made[sign])
		}
	}
}

// P5: − ahead of one and ′, at the bounds too.
func TestNegateAndConjugate(t *testing.T) {
	some := rand.New(rand.NewSource(4))
	for range 1000 {
		re, im := fractionOf(some), fractionOf(some)
		x := number.Number{Re: re, Im: im}
		otherRe, otherIm := number.Fraction{Num: -re.Num, Den: re.Den}, number.Fraction{Num: -im.Num, Den: im.Den}
		if got := number.Negate(x); got != (number.Number{Re: otherRe, Im: otherIm}) {
			t.Fatalf("Negate(%v) = %v", x, got)
		}
		if got := number.Conjugate(x); got != (number.Number{Re: re, Im: otherIm}) {
			t.Fatalf("Conjugate(%v) = %v", x, got)
		}
	}
}

// P5: each numeral is a number of quarters.
func TestOfQuarters(t *testing.T) {
	for count := range 4000 {
		want := big.NewRat(int64(count), 4)
		got := number.OfQuarters(count)
		if got.Re.Num != want.Num().Int64() || got.Re.Den != want.Denom().Int64() || got.Im != (number.Fraction{Num: 0, Den: 1}) {
			t.Fatalf("OfQuarters(%d) = %v", count, got)
		}
	}
	if got := number.Unit(); got != (number.Number{Re: number.Fraction{Num: 0, Den: 1}, Im: number.Fraction{Num: 1, Den: 1}}) {
		t.Errorf("Unit() = %v", got)
	}
}
