package rill_test

import (
	"strings"
	"testing"

	"rill/rill"
)

type valueCase struct {
	text string
	want [4]int
}

func wantValues(t *testing.T, b *rill.Book, cases []valueCase) {
	t.Helper()
	for _, c := range cases {
		// Twice: what was worked once must be told alike.
		for range 2 {
			got, err, place := b.Value(c.text)
			if got != c.want || err != rill.OK || place != 0 {
				t.Errorf("Value(%q) = %v %d %d, want %v 0 0", c.text, got, err, place, c.want)
			}
		}
	}
}

func wantRefused(t *testing.T, b *rill.Book, cases []faultCase) {
	t.Helper()
	for _, c := range cases {
		for range 2 {
			got, err, place := b.Value(c.text)
			if got != [4]int{} || err != c.err || place != c.place {
				t.Errorf("Value(%.130q) = %v %d %d, want [0 0 0 0] %d %d", c.text, got, err, place, c.err, c.place)
			}
		}
	}
}

func wantLet(t *testing.T, b *rill.Book, name, text string, err rill.Errno, place int) {
	t.Helper()
	if gotErr, gotPlace := b.Let(name, text); gotErr != err || gotPlace != place {
		t.Errorf("Let(%q, %.130q) = %d %d, want %d %d", name, text, gotErr, gotPlace, err, place)
	}
}

// bookOf makes a book with names, given by turns with their texts.
func bookOf(t *testing.T, given ...string) *rill.Book {
	t.Helper()
	b := rill.New()
	for n := 0; n < len(given); n += 2 {
		wantLet(t, b, given[n], given[n+1], rill.OK, 0)
	}
	return b
}

// P5: numerals, i, and the lowest terms of what they are.
func TestValuePrimaries(t *testing.T) {
	wantValues(t, rill.New(), []valueCase{
		{"0", [4]int{0, 1, 0, 1}}, {"7", [4]int{7, 1, 0, 1}}, {"10", [4]int{10, 1, 0, 1}}, {"907", [4]int{907, 1, 0, 1}}, {"999", [4]int{999, 1, 0, 1}},
		{"½", [4]int{1, 2, 0, 1}}, {"¼", [4]int{1, 4, 0, 1}}, {"¾", [4]int{3, 4, 0, 1}}, {"0½", [4]int{1, 2, 0, 1}}, {"0¾", [4]int{3, 4, 0, 1}},
		{"2½", [4]int{5, 2, 0, 1}}, {"12¼", [4]int{49, 4, 0, 1}}, {"999¾", [4]int{3999, 4, 0, 1}}, {"100½", [4]int{201, 2, 0, 1}},
		{"i", [4]int{0, 1, 1, 1}}, {" ( i ) ", [4]int{0, 1, 1, 1}},
	})
}

// P5: every sign, over numbers with both parts.
func TestValueOperations(t *testing.T) {
	b := bookOf(t, "α", "2+3×i", "β", "½−¼×i")
	wantValues(t, b, []valueCase{
		{"α", [4]int{2, 1, 3, 1}}, {"β", [4]int{1, 2, -1, 4}},
		{"α+β", [4]int{5, 2, 11, 4}}, {"α−β", [4]int{3, 2, 13, 4}}, {"β−α", [4]int{-3, 2, -13, 4}},
		{"α×β", [4]int{7, 4, 1, 1}}, {"β×α", [4]int{7, 4, 1, 1}},
		{"α÷β", [4]int{4, 5, 32, 5}}, {"β÷α", [4]int{1, 52, -2, 13}}, {"α÷α", [4]int{1, 1, 0, 1}}, {"0÷α", [4]int{0, 1, 0, 1}}, {"α÷i", [4]int{3, 1, -2, 1}}, {"α÷2", [4]int{1, 1, 3, 2}},
		{"α²", [4]int{-5, 1, 12, 1}}, {"β²", [4]int{3, 16, -1, 4}}, {"i²", [4]int{-1, 1, 0, 1}}, {"i²²", [4]int{1, 1, 0, 1}},
		{"α′", [4]int{2, 1, -3, 1}}, {"β′", [4]int{1, 2, 1, 4}}, {"α′′", [4]int{2, 1, 3, 1}}, {"7′", [4]int{7, 1, 0, 1}},
		{"−α", [4]int{-2, 1, -3, 1}}, {"−β", [4]int{-1, 2, 1, 4}}, {"−−α", [4]int{2, 1, 3, 1}}, {"−0", [4]int{0, 1, 0, 1}},
		{"−α²", [4]int{5, 1, -12, 1}}, {"(−α)²", [4]int{-5, 1, 12, 1}}, {"α²′", [4]int{-5, 1, -12, 1}}, {"α×α′", [4]int{13, 1, 0, 1}},
		{"½+¼+¾", [4]int{3, 2, 0, 1}}, {"1÷3+1÷6", [4]int{1, 2, 0, 1}}, {"1÷3−1÷3", [4]int{0, 1, 0, 1}}, {"2÷4", [4]int{1, 2, 0, 1}}, {"1÷−2", [4]int{-1, 2, 0, 1}}, {"−1÷−2", [4]int{1, 2, 0, 1}},
	})
}

// P5: of a row of the same kind from the left on, and what brackets change.
func TestValueOrder(t *testing.T) {
	wantValues(t, rill.New(), []valueCase{
		{"7−2−1", [4]int{4, 1, 0, 1}}, {"7−(2−1)", [4]int{6, 1, 0, 1}}, {"7−2+1", [4]int{6, 1, 0, 1}}, {"7−(2+1)", [4]int{4, 1, 0, 1}},
		{"8÷4÷2", [4]int{1, 1, 0, 1}}, {"8÷(4÷2)", [4]int{4, 1, 0, 1}}, {"8÷4×2", [4]int{4, 1, 0, 1}}, {"8÷(4×2)", [4]int{1, 1, 0, 1}},
		{"1+2×3", [4]int{7, 1, 0, 1}}, {"(1+2)×3", [4]int{9, 1, 0, 1}}, {"1−2×3²", [4]int{-17, 1, 0, 1}}, {"1−(2×3)²", [4]int{-35, 1, 0, 1}}, {"−2²", [4]int{-4, 1, 0, 1}}, {"2×−3²", [4]int{-18, 1, 0, 1}},
		{"−1+2", [4]int{1, 1, 0, 1}}, {"−(1+2)", [4]int{-3, 1, 0, 1}}, {"−2×3", [4]int{-6, 1, 0, 1}},
	})
}

const most = "999×(999+2)"       // 999999
const least = "1÷7÷11÷13×1÷999"  // 1 by 999999, each step small enough
const thousand = "(999+1)"       // whose square is 1 above the bound
const tiny = "1÷10÷10÷10÷10÷100" // 1 by 1000000

// P5: numerators and denominators of MaxPart, above and below 0, in both parts.
func TestValueGreatest(t *testing.T) {
	b := bookOf(t, "μ", most, "λ", least)
	wantValues(t, b, []valueCase{
		{most, [4]int{999999, 1, 0, 1}}, {"−μ", [4]int{-999999, 1, 0, 1}}, {"μ×i", [4]int{0, 1, 999999, 1}}, {"−μ×i", [4]int{0, 1, -999999, 1}}, {"(μ×i)′", [4]int{0, 1, -999999, 1}},
		{"0−μ", [4]int{-999999, 1, 0, 1}}, {"μ−1+1", [4]int{999999, 1, 0, 1}}, {"1−μ−1", [4]int{-999999, 1, 0, 1}}, {"μ×1", [4]int{999999, 1, 0, 1}}, {"μ−μ", [4]int{0, 1, 0, 1}},
		{least, [4]int{1, 999999, 0, 1}}, {"−λ", [4]int{-1, 999999, 0, 1}}, {"λ×i", [4]int{0, 1, 1, 999999}}, {"λ×−i", [4]int{0, 1, -1, 999999}}, {"λ+λ", [4]int{2, 999999, 0, 1}}, {"λ−λ−λ", [4]int{-1, 999999, 0, 1}},
		{"μ×λ", [4]int{1, 1, 0, 1}}, {"1−λ", [4]int{999998, 999999, 0, 1}}, {"(1−λ)×μ", [4]int{999998, 1, 0, 1}}, {"μ÷1", [4]int{999999, 1, 0, 1}}, {"λ÷i", [4]int{0, 1, -1, 999999}},
	})
}

// P5: one more is too big.
func TestValueTooBig(t *testing.T) {
	b := bookOf(t, "μ", most, "λ", least)
	wantRefused(t, b, []faultCase{
		{"μ+1", rill.ErrBig, 2}, {"−μ−1", rill.ErrBig, 5}, {"μ×i+i", rill.ErrBig, 5}, {"−μ×i−i", rill.ErrBig, 8}, {"1+μ", rill.ErrBig, 1}, {"μ−−1", rill.ErrBig, 2},
		{thousand + "²", rill.ErrBig, 7}, {thousand + "×" + thousand, rill.ErrBig, 7}, {"(" + thousand + "×i)²", rill.ErrBig, 12}, {"μ²", rill.ErrBig, 2}, {"μ×μ", rill.ErrBig, 2}, {"−μ×μ", rill.ErrBig, 5},
		{tiny, rill.ErrBig, 17}, {"−" + tiny, rill.ErrBig, 20}, {"i×(" + tiny + ")", rill.ErrBig, 21}, {"λ²", rill.ErrBig, 2}, {"λ×½", rill.ErrBig, 2}, {"λ+½", rill.ErrBig, 2}, {"λ−½", rill.ErrBig, 2}, {"λ÷2", rill.ErrBig, 2},
		{"1+λ", rill.ErrBig, 1}, {"λ×½×i", rill.ErrBig, 2}, {"1÷λ", rill.ErrBig, 1}, {"½+½×i+λ×i", rill.ErrBig, 8},
		{"999²²", rill.ErrBig, 5}, {"½×999²²", rill.ErrBig, 9},
	})
}

// P5: a fraction on the way may not be too big, even if the result is not.
func TestValueTooBigOnTheWay(t *testing.T) {
	b := bookOf(t, "α", thousand, "τ", "1÷100÷10", "σ", "(1+i)÷100÷10")
	wantValues(t, b, []valueCase{{"1÷(999)", [4]int{1, 999, 0, 1}}, {"(999+i)²", [4]int{998000, 1, 1998, 1}}, {"(1+i)÷999", [4]int{1, 999, 1, 999}}})
	wantRefused(t, b, []faultCase{
		{"1÷α", rill.ErrBig, 1}, {"α÷α", rill.ErrBig, 2}, {"0÷α", rill.ErrBig, 1}, {"1÷(α×i)", rill.ErrBig, 1}, {"i÷τ", rill.ErrBig, 1}, {"0÷(τ×i)", rill.ErrBig, 1},
		{"(α+i)²", rill.ErrBig, 6}, {"(α+i)×(α+i)", rill.ErrBig, 6}, {"(1+α×i)²", rill.ErrBig, 9}, {"(α+i)×(i−α)", rill.ErrBig, 6}, {"(1−α×i)×(1+α×i)", rill.ErrBig, 11},
		{"σ²", rill.ErrBig, 2}, {"σ×σ", rill.ErrBig, 2}, {"σ×σ′", rill.ErrBig, 2},
		{"α×α÷α", rill.ErrBig, 2}, {"(α²−1)×0", rill.ErrBig, 3},
		// n too big, though neither square is; and each of the other sums and products.
		{"0÷(800+800×i)", rill.ErrBig, 1}, {"999²÷2", rill.ErrBig, 5}, {"i×999²÷2", rill.ErrBig, 8}, {"999²÷(2×i)", rill.ErrBig, 5}, {"i×999²÷(2×i)", rill.ErrBig, 8},
		{"(800+800×i)÷(700+700×i)", rill.ErrBig, 12}, {"(800+800×i)÷(700−700×i)", rill.ErrBig, 12},
		{"(1÷999)÷(1+999×i)", rill.ErrBig, 8},
	})
}

// P5: what is divided by 0, also where only the whole of it comes to 0.
func TestValueZero(t *testing.T) {
	b := bookOf(t, "ζ", "1−1", "μ", most)
	wantRefused(t, b, []faultCase{
		{"1÷0", rill.ErrZero, 1}, {"0÷0", rill.ErrZero, 1}, {"i÷0", rill.ErrZero, 1}, {"1÷−0", rill.ErrZero, 1}, {"1÷0′", rill.ErrZero, 1}, {"1÷0²", rill.ErrZero, 1}, {"1 ÷ ( 0 )", rill.ErrZero, 2},
		{"1÷(i−i)", rill.ErrZero, 1}, {"1÷(1+i²)", rill.ErrZero, 1}, {"1÷(½−¼−¼)", rill.ErrZero, 1}, {"1÷((1+i)×(1−i)−2)", rill.ErrZero, 1}, {"2÷(0×i)", rill.ErrZero, 1},
		{"μ÷0", rill.ErrZero, 2}, {"1÷ζ", rill.ErrZero, 1}, {"ζ÷ζ", rill.ErrZero, 2}, {"1+2×3÷ζ", rill.ErrZero, 6},
	})
	wantValues(t, b, []valueCase{{"0÷1", [4]int{0, 1, 0, 1}}, {"1÷i", [4]int{0, 1, -1, 1}}, {"0×0", [4]int{0, 1, 0, 1}}, {"ζ÷i", [4]int{0, 1, 0, 1}}})
}

// P5: the first operation that cannot be made is told: those on which one is made first, of two the left one.
func TestValueFirstOperation(t *testing.T) {
	wantRefused(t, rill.New(), []faultCase{
		{"1÷0+999²²", rill.ErrZero, 1}, {"999²²+1÷0", rill.ErrBig, 5}, {"1÷0+1÷0", rill.ErrZero, 1},
		{"1÷(1÷0)", rill.ErrZero, 5}, {"(1÷0)÷0", rill.ErrZero, 2}, {"1÷0÷0", rill.ErrZero, 1}, {"999²²÷0", rill.ErrBig, 5}, {"0÷0×999²²", rill.ErrZero, 1},
		{"999×999×(1÷0)", rill.ErrZero, 12}, {"999²×999×(1÷0)", rill.ErrBig, 5}, {"999²×(999×(1÷0))", rill.ErrZero, 15},
		{"−1÷0", rill.ErrZero, 4}, {"−(1÷0)′²", rill.ErrZero, 5}, {"(999²×2)²′", rill.ErrBig, 6}, {"2÷(999²²)", rill.ErrBig, 9}, {"1+2×(3−4÷(5−5))", rill.ErrZero, 11},
	})
}

// P5, P1: the errors of Print ahead of ErrName, that ahead of those of the operations; the first name that is not there.
func TestValueOrderOfErrors(t *testing.T) {
	b := bookOf(t, "β", "2")
	long := strings.Repeat(" ", 120)
	wantRefused(t, b, []faultCase{
		{"", rill.ErrText, 0}, {"1+", rill.ErrText, 2}, {"1 ½", rill.ErrText, 2}, {"α+", rill.ErrText, 3}, {"α)", rill.ErrText, 2}, {"1÷0)", rill.ErrText, 4}, {"1÷0÷", rill.ErrText, 6}, {"1\xff", rill.ErrText, 1},
		{long + "α", rill.ErrLong, 0}, {long + "1÷0", rill.ErrLong, 0}, {long + ")", rill.ErrLong, 0}, {long + "1", rill.ErrLong, 0},
		{"α", rill.ErrName, 0}, {"  α", rill.ErrName, 2}, {"β+α", rill.ErrName, 3}, {"α+γ", rill.ErrName, 0}, {"β×(1−γ)+α", rill.ErrName, 9}, {"−ω²", rill.ErrName, 3}, {"β÷β′×−(δ)′+ε", rill.ErrName, 15},
		{"1÷0+α", rill.ErrName, 5}, {"999²²×α", rill.ErrName, 9}, {"α÷0", rill.ErrName, 0}, {"1÷0+999²²+ς", rill.ErrName, 13},
		{"β÷0", rill.ErrZero, 2},
	})
}

// P5: texts as long and as deep as may be.
func TestValueLength(t *testing.T) {
	deep := strings.Repeat("(", 59) + "7" + strings.Repeat(")", 59)
	wantValues(t, rill.New(), []valueCase{
		{strings.Repeat(" ", 119) + "1", [4]int{1, 1, 0, 1}},
		{deep, [4]int{7, 1, 0, 1}},
		{strings.Repeat("−", 39) + "111", [4]int{-111, 1, 0, 1}},
		{"i" + strings.Repeat("²", 59), [4]int{1, 1, 0, 1}},
		{strings.Repeat("1+", 59) + "1", [4]int{60, 1, 0, 1}},
	})
}
