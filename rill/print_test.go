package rill_test

import (
	"strings"
	"sync"
	"testing"

	"rill/rill"
)

type printCase struct {
	text string
	want string
}

type faultCase struct {
	text  string
	err   rill.Errno
	place int
}

func wantPrinted(t *testing.T, cases []printCase) {
	t.Helper()
	for _, c := range cases {
		got, err, place := rill.Print(c.text)
		if got != c.want || err != rill.OK || place != 0 {
			t.Errorf("Print(%q) = %q %d %d, want %q 0 0", c.text, got, err, place, c.want)
		}
	}
}

func wantFaults(t *testing.T, cases []faultCase) {
	t.Helper()
	for _, c := range cases {
		got, err, place := rill.Print(c.text)
		if got != "" || err != c.err || place != c.place {
			t.Errorf("Print(%.130q) = %q %d %d, want \"\" %d %d", c.text, got, err, place, c.err, c.place)
		}
	}
}

// P3: every sign, alone and in an ordinary expression.
func TestPrintOrdinary(t *testing.T) {
	wantPrinted(t, []printCase{
		{"0", "0"}, {"7", "7"}, {"i", "i"}, {"α", "α"}, {"ς", "ς"}, {"ω", "ω"},
		{"½", "½"}, {"¼", "¼"}, {"¾", "¾"},
		{"1+2", "1+2"}, {"1−2", "1−2"}, {"1×2", "1×2"}, {"1÷2", "1÷2"},
		{"−1", "−1"}, {"−−−1", "−−−1"}, {"1−−2", "1−−2"}, {"1+−2", "1+−2"}, {"1×−2", "1×−2"},
		{"α²", "α²"}, {"α′", "α′"}, {"α²′′²", "α²′′²"}, {"½²", "½²"}, {"−i′", "−i′"},
		{"1+2×3−4÷5", "1+2×3−4÷5"},
		{"3¼+2×i−α′÷(1−i)²", "3¼+2×i−α′÷(1−i)²"},
	})
}

// P3: a numeral's digits and what may stand right behind them.
func TestPrintNumerals(t *testing.T) {
	wantPrinted(t, []printCase{
		{"10", "10"}, {"999", "999"}, {"100", "100"}, {"907", "907"},
		{"0½", "0½"}, {"1½", "1½"}, {"12¼", "12¼"}, {"999¾", "999¾"},
		{"0+0", "0+0"}, {"0²", "0²"}, {"(0)", "0"},
	})
	wantFaults(t, []faultCase{
		{"1000", rill.ErrText, 3}, {"9999½", rill.ErrText, 3}, {"1+2345", rill.ErrText, 5},
		{"00", rill.ErrText, 1}, {"01", rill.ErrText, 1}, {"09", rill.ErrText, 1}, {"0½1", rill.ErrText, 3}, {"−07", rill.ErrText, 4},
		{"1½½", rill.ErrText, 3}, {"1½¼", rill.ErrText, 3}, {"1¾2", rill.ErrText, 3}, {"½1", rill.ErrText, 2}, {"¼¾", rill.ErrText, 2},
		{"1 2", rill.ErrText, 2}, {"12 3", rill.ErrText, 3}, {"0 0", rill.ErrText, 2},
		{"1 ½", rill.ErrText, 2}, {"1  ¼", rill.ErrText, 3}, {"100 ¾", rill.ErrText, 4}, {"½ ½", rill.ErrText, 3}, {"(1) ½", rill.ErrText, 4}, {"(1)½", rill.ErrText, 3},
	})
}

// P3: blanks ahead of each sign and at the end, and no other byte in their stead.
func TestPrintBlanks(t *testing.T) {
	wantPrinted(t, []printCase{
		{" 1", "1"}, {"1 ", "1"}, {"   12½   ", "12½"},
		{" ( 1 + 2 ) × 3 ", "(1+2)×3"},
		{" − − i ² ′ ÷ α − ½ ", "−−i²′÷α−½"},
		{"1 + ( 2 )", "1+2"},
	})
	wantFaults(t, []faultCase{
		{" ", rill.ErrText, 1}, {"    ", rill.ErrText, 4}, {"1 + ", rill.ErrText, 4}, {"( 1 ", rill.ErrText, 4},
		{"1\t", rill.ErrText, 1}, {"\n1", rill.ErrText, 0}, {"1+\u00a02", rill.ErrText, 2}, {"1\r\n", rill.ErrText, 1},
	})
}

// P3: brackets that are not needed go, the others stay.
func TestPrintBrackets(t *testing.T) {
	wantPrinted(t, []printCase{
		{"(1)", "1"}, {"((((i))))", "i"}, {"(1+2)", "1+2"}, {"(½)²", "½²"}, {"(α)′", "α′"},
		{"(1+2)+3", "1+2+3"}, {"1+(2+3)", "1+(2+3)"}, {"1+(2−3)", "1+(2−3)"}, {"1−(2+3)", "1−(2+3)"}, {"(1−2)+3", "1−2+3"},
		{"(1×2)÷3", "1×2÷3"}, {"1×(2÷3)", "1×(2÷3)"}, {"1÷(2÷3)", "1÷(2÷3)"},
		{"(1×2)+(3÷4)", "1×2+3÷4"}, {"1−(2×3)", "1−2×3"}, {"1×(2+3)", "1×(2+3)"}, {"(1+2)÷(3+4)", "(1+2)÷(3+4)"},
		{"((1+2))×3", "(1+2)×3"}, {"1×((2+3))", "1×(2+3)"},
		{"1+(−2)", "1+−2"}, {"1−(−2)", "1−−2"}, {"(−1)+2", "−1+2"}, {"(−1)×2", "−1×2"}, {"2×(−1)", "2×−1"}, {"2×(−1)×3", "2×−1×3"},
		{"−(1×2)", "−(1×2)"}, {"−(1+2)", "−(1+2)"}, {"−(−(−1))", "−−−1"}, {"−(1²)", "−1²"}, {"−(1)²", "−1²"}, {"(−1)²", "(−1)²"}, {"(−1)′", "(−1)′"}, {"((−1))²", "(−1)²"},
		{"(1²)′", "1²′"}, {"(1×2)²", "(1×2)²"}, {"(1+2)²′", "(1+2)²′"}, {"((1+2)²)′", "(1+2)²′"}, {"(1²)×(2′)", "1²×2′"},
		{"(−(1+2))×3", "−(1+2)×3"}, {"((−1)²)²", "(−1)²²"},
	})
}

// P3: no expression: the place from which on nothing could save it.
func TestPrintFaults(t *testing.T) {
	wantFaults(t, []faultCase{
		{"", rill.ErrText, 0}, {"−", rill.ErrText, 3}, {"(", rill.ErrText, 1}, {"1+", rill.ErrText, 2}, {"1×", rill.ErrText, 3}, {"−−", rill.ErrText, 6},
		{"(1", rill.ErrText, 2}, {"((1)", rill.ErrText, 4}, {"(α+", rill.ErrText, 4}, {"1−(2²", rill.ErrText, 8},
		{")", rill.ErrText, 0}, {"1)", rill.ErrText, 1}, {"(1))", rill.ErrText, 3}, {"()", rill.ErrText, 1}, {"(1+)", rill.ErrText, 3}, {"(1)(2)", rill.ErrText, 3},
		{"+1", rill.ErrText, 0}, {"×1", rill.ErrText, 0}, {"1++2", rill.ErrText, 2}, {"1−+2", rill.ErrText, 4}, {"1×÷2", rill.ErrText, 3}, {"−+1", rill.ErrText, 3},
		{"²", rill.ErrText, 0}, {"′1", rill.ErrText, 0}, {"1+²", rill.ErrText, 2}, {"−′", rill.ErrText, 3}, {"1²2", rill.ErrText, 3}, {"1′i", rill.ErrText, 4}, {"1²(2)", rill.ErrText, 3},
		{"2i", rill.ErrText, 1}, {"ii", rill.ErrText, 1}, {"i2", rill.ErrText, 1}, {"αβ", rill.ErrText, 2}, {"2α", rill.ErrText, 1}, {"α½", rill.ErrText, 2},
	})
}

// P3: runes that are no signs, those beside the signs among them.
func TestPrintForeignRunes(t *testing.T) {
	for _, foreign := range []string{"-", "*", "/", "·", "³", "'", "″", "j", "I", "ΰ", "ϊ", "Α", "Ω", "a", "[", ",", ".", "٣", "⅓", "⅛", "\u0301", "\u00ad", "\ufeff", "\ufffd", "\x00", "\x7f", "😀"} {
		wantFaults(t, []faultCase{
			{foreign, rill.ErrText, 0}, {"1" + foreign, rill.ErrText, 1}, {"1+" + foreign + "2", rill.ErrText, 2}, {"α ×" + foreign, rill.ErrText, 5}, {"1)" + foreign, rill.ErrText, 1},
		})
	}
}

// P3: what is no UTF-8, at its first byte, unless the fault is ahead of it.
func TestPrintBrokenBytes(t *testing.T) {
	for _, broken := range []string{"\xff", "\x80", "\xc2", "\xc2\xc2", "\xe2\x88", "\xe2", "\xce", "\xc0\xa0", "\xe0\x80\xa8", "\xed\xa0\x80", "\xf4\x90\x80\x80", "\xf0\x9f\x98"} {
		wantFaults(t, []faultCase{
			{broken, rill.ErrText, 0}, {"1" + broken, rill.ErrText, 1}, {"1+" + broken + "2", rill.ErrText, 2}, {"α ×" + broken, rill.ErrText, 5}, {"1)" + broken, rill.ErrText, 1}, {"½" + broken + ")", rill.ErrText, 2},
		})
	}
}

// P3: MaxText bytes and one more; the bound counts bytes, not runes, and blanks with them.
func TestPrintLength(t *testing.T) {
	minuses := strings.Repeat("−", 39)
	deep := strings.Repeat("(", 59) + "1" + strings.Repeat(")", 59)
	wantPrinted(t, []printCase{
		{minuses + "111", minuses + "111"},
		{minuses + "1" + "  ", minuses + "1"},
		{strings.Repeat(" ", 119) + "1", "1"},
		{deep + " ", "1"},
		{"i" + strings.Repeat("²", 59) + " ", "i" + strings.Repeat("²", 59)},
	})
	wantFaults(t, []faultCase{
		{minuses + "111 ", rill.ErrLong, 0},
		{strings.Repeat(" ", 120) + "1", rill.ErrLong, 0},
		{strings.Repeat("²", 60), rill.ErrText, 0},
		{strings.Repeat("(", 120), rill.ErrText, 120},
		{strings.Repeat("−", 40), rill.ErrText, 120},
		{strings.Repeat(" ", 120), rill.ErrText, 120},
	})
}

// P1: the error that is named first is the one that is told.
func TestPrintLengthAheadOfText(t *testing.T) {
	wantFaults(t, []faultCase{
		{strings.Repeat("x", 120), rill.ErrText, 0},
		{strings.Repeat("x", 121), rill.ErrLong, 0},
		{strings.Repeat("\xff", 120), rill.ErrText, 0},
		{strings.Repeat("\xff", 121), rill.ErrLong, 0},
		{"1" + strings.Repeat("+", 120), rill.ErrLong, 0},
		{strings.Repeat("(", 1<<22), rill.ErrLong, 0},
	})
}

// P2: the same text is answered alike, whatever was asked ahead of it or is asked beside it.
func TestPrintHangsOnItsTextAlone(t *testing.T) {
	texts := []string{"(1)+(2)", "", "1−(2−3)", "1 ½", "−(α÷β)′", "((", strings.Repeat("1", 121), "(1²)²"}
	type answer struct {
		text  string
		err   rill.Errno
		place int
	}
	ask := func(text string) answer {
		printed, err, place := rill.Print(text)
		return answer{printed, err, place}
	}
	var first []answer
	for _, text := range texts {
		first = append(first, ask(text))
	}
	var all sync.WaitGroup
	for shift := range 8 {
		all.Go(func() {
			for round := range 200 {
				n := (round + shift) % len(texts)
				if got := ask(texts[n]); got != first[n] {
					t.Errorf("Print(%q) = %v, and at first %v", texts[n], got, first[n])
				}
			}
		})
	}
	all.Wait()
}
