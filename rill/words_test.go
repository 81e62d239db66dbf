package rill_test

import (
	"math/rand"
	"strings"
	"testing"
	"unicode/utf8"

	"rill/rill"
)

// This file says the document's words a second time, in another way than the program does (a machine of few states; a stack of signs that wait), and holds Print against them.

// What a text has come to.
const (
	wants  = iota // a primary must come
	one           // behind one digit
	two           // behind two
	full          // behind three, or 0: no digit may come
	behind        // behind a primary that cannot grow
)

// step answers what a text comes to by one more rune, and how many brackets are open; false, if none may come.
func step(state, open int, r rune) (int, int, bool) {
	inDigits := state == one || state == two || state == full
	switch {
	case r == ' ' && inDigits:
		return behind, open, true
	case r == ' ':
		return state, open, true
	case r == '0' && state == wants:
		return full, open, true
	case r >= '0' && r <= '9':
		return state + 1, open, state <= two
	case r == '½' || r == '¼' || r == '¾':
		return behind, open, state == wants || inDigits
	case r == 'i' || r >= 'α' && r <= 'ω':
		return behind, open, state == wants
	case r == '(':
		return wants, open + 1, state == wants
	case r == ')':
		return behind, open - 1, state != wants && open > 0
	case r == '−':
		return wants, open, true
	case r == '+' || r == '×' || r == '÷':
		return wants, open, state != wants
	case r == '²' || r == '′':
		return behind, open, state != wants
	}
	return 0, 0, false
}

// faultOf answers the place at which a text is no expression, or -1.
func faultOf(text string) int {
	state, open := wants, 0
	for place := 0; place < len(text); {
		r, size := utf8.DecodeRuneInString(text[place:])
		var ok bool
		state, open, ok = step(state, open, r)
		if !ok {
			return place
		}
		place += size
	}
	if state == wants || open > 0 {
		return len(text)
	}
	return -1
}

// strength answers how tightly a sign holds what stands beside it; n is − ahead of one.
func strength(sign rune) int {
	return map[rune]int{'(': 0, '+': 1, '−': 1, '×': 2, '÷': 2, 'n': 3}[sign]
}

// worked is a number (or name) of an expression, or a sign that is worked, and its place.
type worked struct {
	text  string
	place int
}

// orderOf answers the numbers and signs of an expression in the order in which they are worked.
func orderOf(text string) []worked {
	var order, waiting []worked
	signOf := func(w worked) rune { return []rune(w.text)[0] }
	release := func(least int) {
		for len(waiting) > 0 && strength(signOf(waiting[len(waiting)-1])) >= least {
			order = append(order, waiting[len(waiting)-1])
			waiting = waiting[:len(waiting)-1]
		}
	}
	mayBegin, inNumeral := true, false
	for place, r := range text {
		numeral := strings.ContainsRune("0123456789½¼¾", r)
		switch {
		case r == ' ':
			continue
		case r == '(':
			waiting = append(waiting, worked{"(", place})
		case r == ')':
			release(1)
			waiting = waiting[:len(waiting)-1]
		case r == '−' && mayBegin:
			waiting = append(waiting, worked{"n", place})
		case strength(r) > 0:
			release(strength(r))
			waiting = append(waiting, worked{string(r), place})
		case numeral && inNumeral:
			order[len(order)-1].text += string(r)
		default:
			order = append(order, worked{string(r), place})
		}
		inNumeral = numeral
		mayBegin = r == '(' || strength(r) > 0
	}
	release(1)
	return order
}

// workOf says what is worked, and on what.
func workOf(text string) string {
	var out strings.Builder
	for _, w := range orderOf(text) {
		out.WriteString(" " + w.text)
	}
	return out.String()
}

// pairsOf answers where the brackets of an expression open and close.
func pairsOf(text string) [][2]int {
	var open []int
	var pairs [][2]int
	for place, r := range text {
		switch r {
		case '(':
			open = append(open, place)
		case ')':
			pairs = append(pairs, [2]int{open[len(open)-1], place})
			open = open[:len(open)-1]
		}
	}
	return pairs
}

func holdAgainstWords(t *testing.T, text string) {
	got, err, place := rill.Print(text)
	if len(text) > 120 {
		if got != "" || err != rill.ErrLong || place != 0 {
			t.Fatalf("Print(%q) = %q %d %d, want \"\" 1 0", text, got, err, place)
		}
		return
	}
	if fault := faultOf(text); fault >= 0 {
		if got != "" || err != rill.ErrText || place != fault {
			t.Fatalf("Print(%q) = %q %d %d, want \"\" 2 %d", text, got, err, place, fault)
		}
		return
	}
	if err != rill.OK || place != 0 {
		t.Fatalf("Print(%q) = %q %d %d, want an expression", text, got, err, place)
	}
	holdForm(t, text, got)
}

// holdForm fails if what was printed is not worked as the text is, has a blank, or has a bracket too many.
func holdForm(t *testing.T, text, got string) {
	work := workOf(text)
	if faultOf(got) >= 0 || workOf(got) != work || strings.Contains(got, " ") {
		t.Fatalf("Print(%q) = %q: not the same expression without blanks", text, got)
	}
	for _, pair := range pairsOf(got) {
		less := got[:pair[0]] + got[pair[0]+1:pair[1]] + got[pair[1]+1:]
		if faultOf(less) < 0 && workOf(less) == work {
			t.Fatalf("Print(%q) = %q: %q would do", text, got, less)
		}
	}
}

// eachText calls do with every text of so many pieces at most.
func eachText(pieces []string, most int, do func(string)) {
	var grow func(text string, left int)
	grow = func(text string, left int) {
		do(text)
		if left == 0 {
			return
		}
		for _, piece := range pieces {
			grow(text+piece, left-1)
		}
	}
	grow("", most)
}

// P1, P3: every short text.
func TestPrintEveryShortText(t *testing.T) {
	all := []string{"0", "1", " ", "½", "+", "−", "÷", "(", ")", "i", "²", "-", "\xff", "\xe2\x88"}
	eachText(all, 5, func(text string) { holdAgainstWords(t, text) })
	digits := []string{"0", "9", " ", "¾", "+"}
	eachText(digits, 7, func(text string) { holdAgainstWords(t, text) })
	brackets := []string{"1", "+", "−", "×", "(", ")", "′"}
	eachText(brackets, 7, func(text string) { holdAgainstWords(t, text) })
}

// P1, P3: every byte and every two bytes, at the beginning and behind a number.
func TestPrintEveryByte(t *testing.T) {
	for first := range 256 {
		for second := range 256 {
			two := string([]byte{byte(first), byte(second)})
			holdAgainstWords(t, two[:1])
			holdAgainstWords(t, two)
			holdAgainstWords(t, "1"+two)
		}
	}
}

// P3: every rune of the first planes' beginning, where a primary must come and behind one.
func TestPrintEveryRune(t *testing.T) {
	for r := rune(0); r < 0x3000; r++ {
		holdAgainstWords(t, string(r))
		holdAgainstWords(t, "1"+string(r)+"1")
	}
}

// grown answers some expression, with brackets and blanks that are needed and that are not.
func grown(some *rand.Rand, depth int) string {
	gap := strings.Repeat(" ", max(0, some.Intn(6)-4))
	primaries := []string{"0", "7", "42", "999¼", "½", "0¾", "i", "α", "ψ"}
	if depth == 0 {
		return gap + primaries[some.Intn(len(primaries))]
	}
	switch some.Intn(9) {
	case 0:
		return gap + "−" + grown(some, depth-1)
	case 1:
		return gap + "(" + grown(some, depth-1) + gap + ")"
	case 2:
		return grown(some, depth-1) + gap + []string{"²", "′"}[some.Intn(2)]
	case 3:
		return grown(some, 0)
	}
	return grown(some, depth-1) + gap + []string{"+", "−", "×", "÷"}[some.Intn(4)] + grown(some, depth-1)
}

// P1, P3: longer expressions, those with a byte put in, and those above the bound.
func TestPrintLongerTexts(t *testing.T) {
	some := rand.New(rand.NewSource(1))
	counts := map[rill.Errno]int{}
	for range 40000 {
		text := grown(some, 1+some.Intn(7))
		holdAgainstWords(t, text)
		_, err, _ := rill.Print(text)
		counts[err]++
		at := some.Intn(len(text) + 1)
		holdAgainstWords(t, text[:at]+string([]byte{byte(some.Intn(256))})+text[at:])
		holdAgainstWords(t, text[:at])
	}
	if counts[rill.OK] < 1000 || counts[rill.ErrLong] < 1000 {
		t.Errorf("the texts were all of one kind: %v", counts)
	}
}

func FuzzPrint(f *testing.F) {
	f.Add("−(α÷β)′ + 2½×(1−i)²")
	f.Add("1 ½")
	f.Fuzz(func(t *testing.T, text string) { holdAgainstWords(t, text) })
}
