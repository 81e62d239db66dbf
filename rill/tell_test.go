package rill_test

import (
	"math"
	"math/big"
	"math/rand"
	"slices"
	"strings"
	"sync"
	"testing"

	"rill/rill"
)

// What is said here holds for Digits and for Near.

// wantTellRefused asks both calls, twice: what was worked once must be refused alike.
func wantTellRefused(t *testing.T, b *rill.Book, text string, count int, wantErr rill.Errno, wantPlace int) {
	t.Helper()
	for range 2 {
		if e, list, err, place := b.Digits(text, count); e != 0 || len(list) != 0 || err != wantErr || place != wantPlace {
			t.Errorf("Digits(%.130q, %d) = %d %v %d %d, want 0 [] %d %d", text, count, e, list, err, place, wantErr, wantPlace)
		}
		if got, err, place := b.Near(text, count); got != [2]int{} || err != wantErr || place != wantPlace {
			t.Errorf("Near(%.130q, %d) = %v %d %d, want [0 0] %d %d", text, count, got, err, place, wantErr, wantPlace)
		}
	}
}

// outside are numbers of digits that may not be; some come to ones that may, if they are cut to fewer bits.
func outside() []int {
	return []int{-1, 21, -2, 22, -20, 63, 64, 65, 100, -64, 256, 257, -256, 1 << 16, 1<<16 + 1, 1 << 32, 1<<32 + 5, -1 << 32, math.MaxInt32, math.MinInt32, math.MaxInt, math.MinInt, math.MinInt + 5}
}

// P6, P7: one more than MaxDigits and one less than 0, and far beyond; a name and numbers at the bounds make no difference.
func TestTellRange(t *testing.T) {
	b := bookOf(t, "α", "1÷3", "μ", most)
	for _, text := range []string{"0", "1", "α", "1½−i", "−μ×i", " (1) "} {
		for _, count := range outside() {
			wantTellRefused(t, b, text, count, rill.ErrRange, 0)
		}
		for count := range 21 {
			_, list, err, place := b.Digits(text, count)
			if len(list) != count || err != rill.OK || place != 0 {
				t.Errorf("Digits(%q, %d) = %v %d %d", text, count, list, err, place)
			}
			if _, err, place := b.Near(text, count); err != rill.OK || place != 0 {
				t.Errorf("Near(%q, %d) = %d %d", text, count, err, place)
			}
		}
	}
}

// P1, P6, P7: the errors of Value with their places, in their order, and ahead of ErrRange.
func TestTellOrderOfErrors(t *testing.T) {
	b := bookOf(t, "β", "2")
	blanks := strings.Repeat(" ", 120)
	cases := []faultCase{
		{blanks + "1", rill.ErrLong, 0}, {blanks + "x", rill.ErrLong, 0}, {blanks + "α", rill.ErrLong, 0}, {blanks + "1÷0", rill.ErrLong, 0}, {strings.Repeat("1", 1<<20), rill.ErrLong, 0},
		{"", rill.ErrText, 0}, {" ", rill.ErrText, 1}, {"x", rill.ErrText, 0}, {"1+", rill.ErrText, 2}, {"1 ½", rill.ErrText, 2}, {"α)", rill.ErrText, 2}, {"1÷0−", rill.ErrText, 7}, {"1\xff", rill.ErrText, 1},
		{"α", rill.ErrName, 0}, {"β+α", rill.ErrName, 3}, {"1÷0+α", rill.ErrName, 5}, {"999²²×γ+α", rill.ErrName, 9},
		{"1÷0", rill.ErrZero, 1}, {"β÷(β−2)", rill.ErrZero, 2}, {"1÷0+999²²", rill.ErrZero, 1},
		{"999²²", rill.ErrBig, 5}, {"999²²+1÷0", rill.ErrBig, 5}, {"β×(" + most + ")", rill.ErrBig, 2}, {tiny, rill.ErrBig, 17},
	}
	for _, c := range cases {
		for _, count := range append(outside(), 0, 1, 20) {
			wantTellRefused(t, b, c.text, count, c.err, c.place)
		}
	}
	wantRefused(t, b, cases)
}

// P1, P2: what is asked changes nothing, whether it is answered or refused.
func TestTellChangesNothing(t *testing.T) {
	b := bookOf(t, "α", "5÷3", "β", "−i")
	for _, text := range []string{"α", "α+β", "γ", "1÷0", "999²²", "α+", "7"} {
		for _, count := range []int{0, 5, 20, 21, -1} {
			b.Digits(text, count)
			b.Near(text, count)
			wantValues(t, b, []valueCase{{"α", [4]int{5, 3, 0, 1}}, {"β", [4]int{0, 1, -1, 1}}, {"α+β", [4]int{5, 3, -1, 1}}})
			wantRefused(t, b, []faultCase{{"γ", rill.ErrName, 0}, {"α+γ", rill.ErrName, 3}})
			wantDigits(t, b, []digitsCase{{"α+β", 1, "+++-+", "-0000"}})
			wantNear(t, b, []nearCase{{"α+β", 2, [2]int{7, -4}}})
		}
	}
	for _, name := range []string{"γ", "δ", "ε", "ζ", "η", "θ"} {
		wantLet(t, b, name, "1", rill.OK, 0)
	}
	wantLet(t, b, "ι", "1", rill.ErrMany, 0)
}

// P2: two books share nothing.
func TestTellOfTwoBooks(t *testing.T) {
	one, other := bookOf(t, "α", "1÷3"), bookOf(t, "α", "−¾")
	for range 2 {
		wantDigits(t, one, []digitsCase{{"α", 0, "+-+-+", "00000"}})
		wantDigits(t, other, []digitsCase{{"α", 0, "--000", "00000"}})
		wantNear(t, one, []nearCase{{"α", 3, [2]int{3, 0}}})
		wantNear(t, other, []nearCase{{"α", 3, [2]int{-6, 0}}})
	}
	wantTellRefused(t, rill.New(), "α", 5, rill.ErrName, 0)
}

// P2: many goroutines ask one book, and write into what they are answered, while others let names.
func TestTellAtTheSameTime(t *testing.T) {
	b := bookOf(t, "α", "0", "τ", "1÷3−i")
	want := digitsOf("+-+-+-+-", "--------")
	var all sync.WaitGroup
	for range 4 {
		all.Go(func() {
			for range 300 {
				b.Let("α", "α+1")
			}
		})
		all.Go(func() {
			for range 1000 {
				e, list, err, place := b.Digits("τ+α−α", 8)
				if e != 0 || !slices.Equal(list, want) || err != rill.OK || place != 0 {
					t.Errorf("Digits(τ+α−α, 8) = %d %v %d %d", e, list, err, place)
				}
				for at := range list {
					list[at] = rill.Digit{Re: 9, Im: 9}
				}
			}
		})
		all.Go(func() {
			last := 0
			for range 1000 {
				got, err, place := b.Near("α−(α−α)×i", 1)
				if got[0] < last || got[0]%2 != 0 || got[1] != 0 || err != rill.OK || place != 0 {
					t.Errorf("twice α was %d, and then %v %d %d", last, got, err, place)
				}
				last = got[0]
			}
		})
	}
	all.Wait()
	wantNear(t, b, []nearCase{{"α", 0, [2]int{1200, 0}}})
}

// digits says the document's words a second time, with the library's fractions.
func (o *oracle) digits(text string, k int) (int, []rill.Digit, rill.Errno, int) {
	x, err, place := o.answer(text)
	if err != rill.OK {
		return 0, nil, err, place
	}
	if k < 0 || k > 20 {
		return 0, nil, rill.ErrRange, 0
	}
	e := 0
	unit := ratOf(1, 1)
	for new(big.Rat).Abs(x.re).Cmp(unit) > 0 || new(big.Rat).Abs(x.im).Cmp(unit) > 0 {
		e++
		unit.Mul(unit, ratOf(2, 1))
	}
	re, im := new(big.Rat).Quo(x.re, unit), new(big.Rat).Quo(x.im, unit)
	var list []rill.Digit
	for range k {
		list = append(list, rill.Digit{Re: nextOf(re), Im: nextOf(im)})
	}
	return e, list, rill.OK, 0
}

// nextOf tells a digit of r, and makes r what is left.
func nextOf(r *big.Rat) int {
	r.Mul(r, ratOf(2, 1))
	digit := 0
	if r.Cmp(ratOf(1, 2)) > 0 {
		digit = 1
	} else if r.Cmp(ratOf(-1, 2)) < 0 {
		digit = -1
	}
	r.Sub(r, ratOf(int64(digit), 1))
	return digit
}

func holdDigits(t *testing.T, b *rill.Book, o *oracle, text string, k int) rill.Errno {
	wantE, want, wantErr, wantPlace := o.digits(text, k)
	e, list, err, place := b.Digits(text, k)
	if e != wantE || !slices.Equal(list, want) || err != wantErr || place != wantPlace {
		t.Fatalf("Digits(%q, %d) = %d %v %d %d, want %d %v %d %d", text, k, e, list, err, place, wantE, want, wantErr, wantPlace)
	}
	return err
}

// nearest says whether a whole number is what Near must tell of a part: at most 1/2 off, and if it is just 1/2, even.
func nearest(whole int, part *big.Rat, n int) bool {
	off := new(big.Rat).Mul(part, ratOf(1<<n, 1))
	off.Abs(off.Sub(off, ratOf(int64(whole), 1)))
	half := off.Cmp(ratOf(1, 2))
	return half < 0 || half == 0 && whole%2 == 0
}

func holdNear(t *testing.T, b *rill.Book, o *oracle, text string, n int) rill.Errno {
	x, wantErr, wantPlace := o.answer(text)
	if wantErr == rill.OK && (n < 0 || n > 20) {
		wantErr = rill.ErrRange
	}
	got, err, place := b.Near(text, n)
	if err != wantErr || place != wantPlace || err != rill.OK && got != [2]int{} {
		t.Fatalf("Near(%q, %d) = %v %d %d, want %d %d", text, n, got, err, place, wantErr, wantPlace)
	}
	if err == rill.OK && !(nearest(got[0], x.re, n) && nearest(got[1], x.im, n)) {
		t.Fatalf("Near(%q, %d) = %v, but the parts are %v and %v", text, n, got, x.re, x.im)
	}
	return err
}

// partSaid is an expression of a fraction, of few or of many digits; each step on its way is small enough.
func partSaid(some *rand.Rand) string {
	within := func() int { return 1 + some.Intn([]int{2, 16, 999}[some.Intn(3)]) }
	sign := []string{"", "−"}[some.Intn(2)]
	switch some.Intn(3) {
	case 0:
		return sign + numeralOf(some.Intn(1000)) + "÷" + numeralOf([]int{1, 2, 4, 8, 16, 128, 512}[some.Intn(7)])
	case 1:
		return sign + "(" + numeralOf(within()-1) + "×" + thousand + "+" + numeralOf(some.Intn(1000)) + ")"
	}
	return sign + "1÷" + numeralOf(within()) + "÷" + numeralOf(within()) + "×" + "(" + numeralOf(within()-1) + "×" + thousand + "+" + numeralOf(some.Intn(1000)) + ")"
}

// P1, P6, P7: numbers of all sizes and expressions of all kinds, held against the words.
func TestTellAgainstOracle(t *testing.T) {
	some := rand.New(rand.NewSource(5))
	counts := map[rill.Errno]int{}
	for range 300 {
		b, o := rill.New(), &oracle{names: map[string]pair{}}
		for _, name := range []string{"α", "β", "γ"}[some.Intn(3):] {
			text := partSaid(some)
			b.Let(name, text)
			o.let(name, text)
		}
		for range 40 {
			text := partSaid(some) + "+i×(" + partSaid(some) + ")"
			if some.Intn(2) == 0 {
				text = said(some, some.Intn(6))
			}
			count := some.Intn(25) - 2
			counts[holdDigits(t, b, o, text, count)]++
			counts[holdNear(t, b, o, text, count)]++
		}
	}
	for _, err := range []rill.Errno{rill.OK, rill.ErrName, rill.ErrZero, rill.ErrBig, rill.ErrRange} {
		if counts[err] < 100 {
			t.Errorf("too few answers of one kind: %v", counts)
		}
	}
}

func FuzzTell(f *testing.F) {
	f.Add("(1−i)÷(2½+i)²", 20)
	f.Add("−999¾×512", 21)
	f.Fuzz(func(t *testing.T, text string, count int) {
		b, o := rill.New(), &oracle{names: map[string]pair{}}
		holdDigits(t, b, o, text, count)
		holdNear(t, b, o, text, count)
	})
}
