package rill_test

import (
	"slices"
	"strings"
	"testing"

	"rill/rill"
)

// digitsCase: the digits of each part are written one behind the other, as +, 0 and -.
type digitsCase struct {
	text   string
	e      int
	re, im string
}

func digitsOf(re, im string) []rill.Digit {
	var list []rill.Digit
	for n := range len(re) {
		list = append(list, rill.Digit{Re: strings.IndexByte("-0+", re[n]) - 1, Im: strings.IndexByte("-0+", im[n]) - 1})
	}
	return list
}

func wantDigits(t *testing.T, b *rill.Book, cases []digitsCase) {
	t.Helper()
	for _, c := range cases {
		want := digitsOf(c.re, c.im)
		// Twice: what was worked once must be told alike.
		for range 2 {
			e, list, err, place := b.Digits(c.text, len(want))
			if e != c.e || !slices.Equal(list, want) || err != rill.OK || place != 0 {
				t.Errorf("Digits(%q, %d) = %d %v %d %d, want %d %v 0 0", c.text, len(want), e, list, err, place, c.e, want)
			}
		}
	}
}

// P6: whole numbers and fractions, above and below 0, and blanks and brackets that change nothing.
func TestDigitsOrdinary(t *testing.T) {
	wantDigits(t, rill.New(), []digitsCase{
		{"¾", 0, "++000", "00000"}, {"½", 0, "+0000", "00000"}, {"1÷3", 0, "+-+-+", "00000"}, {"2÷3", 0, "++-+-", "00000"}, {"5÷8", 0, "+0+00", "00000"},
		{"−¾", 0, "--000", "00000"}, {"−½", 0, "-0000", "00000"}, {"−1÷3", 0, "-+-+-", "00000"}, {"−2÷3", 0, "--+-+", "00000"}, {"−5÷8", 0, "-0-00", "00000"},
		{"2½", 2, "+0+00", "00000"}, {" − ( 2½ ) ", 2, "-0-00", "00000"}, {"3", 2, "++000", "00000"}, {"513", 10, "+00000000+00", "000000000000"}, {"511", 9, "+++++++++000", "000000000000"},
		{"1÷999", 0, "00000000+-00", "000000000000"}, {"999", 10, "+++++0+00-00", "000000000000"},
	})
}

// P6: both parts, each with its own digits.
func TestDigitsOfBothParts(t *testing.T) {
	wantDigits(t, rill.New(), []digitsCase{
		{"(1+i)÷3", 0, "+-+-+", "+-+-+"}, {"(1−i)÷3", 0, "+-+-+", "-+-+-"}, {"¾−½×i", 0, "++000", "-0000"}, {"¼+5×i÷8", 0, "0+000", "+0+00"},
		{"i", 0, "00000", "+++++"}, {"−i", 0, "00000", "-----"}, {"i÷3", 0, "00000", "+-+-+"}, {"(i÷3)′", 0, "00000", "-+-+-"},
		{"3½−22×i÷7", 2, "+++000000000", "--0-+0-+0-+0"}, {"100−37×i", 7, "++00+0000000", "-+0-+0-00000"},
	})
}

// P6: e from the greater of both parts, whichever it is, above or below 0.
func TestDigitsUnitOfTheGreaterPart(t *testing.T) {
	wantDigits(t, rill.New(), []digitsCase{
		{"3+i", 2, "++000", "0+000"}, {"1+3×i", 2, "0+000", "++000"}, {"−3+i", 2, "--000", "0+000"}, {"1−3×i", 2, "0+000", "--000"},
		{"½−5×i", 3, "000+0", "-0-00"}, {"−5+½×i", 3, "-0-00", "000+0"}, {"0+5×i", 3, "00000", "+0+00"},
		{"1+2×i", 1, "+0000", "+++++"}, {"2+i", 1, "+++++", "+0000"}, {"1−2×i", 1, "+0000", "-----"},
	})
}

// P6: a part that is just 2^e or -2^e, and one that is a little more or less.
func TestDigitsAtTheUnit(t *testing.T) {
	b := rill.New()
	powers := []string{"1", "2", "4", "8", "16", "32", "64", "128", "256", "512", "512×2", "512×4", "512×8", "512×16", "512×32", "512×64", "512×128", "512×256", "512×512", "512×512×2"}
	for e, power := range powers {
		wantDigits(t, b, []digitsCase{
			{power, e, "+++++", "00000"}, {"−" + power, e, "-----", "00000"}, {power + "×i", e, "00000", "+++++"}, {"−" + power + "×i", e, "00000", "-----"},
			{power + "−" + power + "×i", e, "+++++", "-----"},
		})
		little := "¼"
		if e > 16 {
			little = "1" // a quarter would be too big a fraction
		}
		for _, more := range []string{power + "+" + little, "−" + power + "−" + little, "(" + power + "+" + little + ")×i", "(" + power + "+" + little + ")×−i"} {
			if got, _, err, place := b.Digits(more, 0); got != e+1 || err != rill.OK || place != 0 {
				t.Errorf("Digits(%q, 0) = %d %d %d, want %d 0 0", more, got, err, place, e+1)
			}
		}
		for _, less := range []string{power + "−" + little, little + "−" + power, "(" + power + "−" + little + ")×i", "(" + power + "−" + little + ")×−i"} {
			if got, _, err, place := b.Digits(less, 0); got != e || err != rill.OK || place != 0 {
				t.Errorf("Digits(%q, 0) = %d %d %d, want %d 0 0", less, got, err, place, e)
			}
		}
	}
	wantDigits(t, b, []digitsCase{
		{"512×512×2+(512×512×2+1)×i", 20, "+0000000000000000000", "+000000000000000000+"},
	})
}

// P6: e is never below 0, however small a number is.
func TestDigitsOfSmallNumbers(t *testing.T) {
	wantDigits(t, rill.New(), []digitsCase{
		{"0", 0, "00000000000000000000", "00000000000000000000"}, {"−0", 0, "00000", "00000"}, {"0×i", 0, "00000", "00000"}, {"i−i", 0, "00000", "00000"},
		{"1÷32", 0, "0000+0", "000000"}, {"−1÷32", 0, "0000-0", "000000"}, {"i÷64", 0, "000000", "00000+"},
	})
}

// P6: t that is just 1/2 or -1/2 tells 0, at the first digit and behind others; and a little more tells 1 or -1.
func TestDigitsAtOneHalf(t *testing.T) {
	wantDigits(t, rill.New(), []digitsCase{
		{"¼", 0, "0+000", "00000"}, {"−¼", 0, "0-000", "00000"}, {"¼×i", 0, "00000", "0+000"}, {"−¼×i", 0, "00000", "0-000"}, {"¼−¼×i", 0, "0+000", "0-000"},
		{"1÷8", 0, "00+00", "00000"}, {"−1÷8", 0, "00-00", "00000"}, {"3÷8", 0, "+0-00", "00000"}, {"−3÷8", 0, "-0+00", "00000"}, {"5÷8×i", 0, "00000", "+0+00"}, {"−3÷8×i", 0, "00000", "-0+00"},
		{"7÷8", 0, "+++00", "00000"}, {"1", 0, "+++++", "00000"}, {"5", 3, "+0+00", "00000"}, {"−3½", 2, "---00", "00000"}, {"1½", 1, "++000", "00000"},
		{"¼+1÷128", 0, "+-0000+0", "00000000"}, {"¼−1÷128", 0, "0+0000-0", "00000000"}, {"−¼−1÷128", 0, "-+0000-0", "00000000"}, {"1÷128−¼", 0, "0-0000+0", "00000000"},
	})
}

// P6: the greatest numerators and denominators.
func TestDigitsOfTheGreatest(t *testing.T) {
	b := bookOf(t, "μ", most, "λ", least, "ν", "1÷127÷127÷62") // ν is 1 by 999998
	none := strings.Repeat("0", 20)
	all := strings.Repeat("+", 20)
	wantDigits(t, b, []digitsCase{
		{"μ", 20, "+++++-000+-00+00000-", none}, {"−μ", 20, "-----+000-+00-00000+", none}, {"μ×i", 20, none, "+++++-000+-00+00000-"}, {"−μ×i", 20, none, "-----+000-+00-00000+"},
		{"λ", 0, "000000000000000000+-", none}, {"λ×i−λ", 0, "000000000000000000-+", "000000000000000000+-"}, {"μ+λ×i", 20, "+++++-000+-00+00000-", none},
		{"(1−λ)", 0, all, none}, {"μ×½", 19, "+++++-000+-00+00000-", none}, {"μ×(1÷500÷500÷2)", 1, all, none},
		{"μ×ν", 1, "+000000000000000000+", none}, {"λ−1−μ×ν×i", 1, "-000000000000000000+", "-000000000000000000-"},
	})
}

// P6: names, and what a name stands for now.
func TestDigitsOfNames(t *testing.T) {
	b := bookOf(t, "α", "2½", "ω", "i÷3")
	wantDigits(t, b, []digitsCase{{"α", 2, "+0+00", "00000"}, {"ω", 0, "00000", "+-+-+"}, {"α+α×i", 2, "+0+00", "+0+00"}, {"3×ω′", 0, "00000", "-----"}})
	wantLet(t, b, "α", "−α÷4", rill.OK, 0)
	wantDigits(t, b, []digitsCase{{"α", 0, "-0-00", "00000"}, {"α+α×i", 0, "-0-00", "-0-00"}})
	wantLet(t, b, "α", "ω", rill.OK, 0)
	wantDigits(t, b, []digitsCase{{"α", 0, "00000", "+-+-+"}})
}

// P6: from no digit to MaxDigits, and more digits begin with the same ones.
func TestDigitsMore(t *testing.T) {
	b := bookOf(t, "μ", most, "λ", least)
	for _, text := range []string{"0", "1", "1÷3", "−2÷7+i", "999¾−22×i÷7", "μ", "λ−μ×i", "1−λ", "3÷8−¼×i"} {
		unit, all, err, place := b.Digits(text, 20)
		if len(all) != 20 || err != rill.OK || place != 0 {
			t.Fatalf("Digits(%q, 20) = %d %v %d %d", text, unit, all, err, place)
		}
		for k := range 21 {
			e, list, err, place := b.Digits(text, k)
			if e != unit || !slices.Equal(list, all[:k]) || err != rill.OK || place != 0 {
				t.Errorf("Digits(%q, %d) = %d %v %d %d, want %d %v 0 0", text, k, e, list, err, place, unit, all[:k])
			}
		}
	}
}

// P2: a list that is answered is new memory: who writes into it, or behind it, changes no other one.
func TestDigitsAreNewMemory(t *testing.T) {
	b := bookOf(t, "α", "1÷3−i")
	want := digitsOf("+-+-+", "-----")
	var lists [][]rill.Digit
	for range 10 {
		_, list, _, _ := b.Digits("α", 5)
		if !slices.Equal(list, want) {
			t.Fatalf("Digits(α, 5) = %v, want %v", list, want)
		}
		lists = append(lists, list)
	}
	for n, list := range lists {
		whole := list[:cap(list)]
		for at := range whole {
			whole[at] = rill.Digit{Re: 100 + n, Im: at}
		}
	}
	for n, list := range lists {
		for at, digit := range list {
			if digit != (rill.Digit{Re: 100 + n, Im: at}) {
				t.Errorf("list %d shares its digit %d", n, at)
			}
		}
	}
	wantDigits(t, b, []digitsCase{{"α", 0, "+-+-+", "-----"}, {"α+0", 0, "+-+-+", "-----"}})
	wantValues(t, b, []valueCase{{"α", [4]int{1, 3, -1, 1}}})
}
