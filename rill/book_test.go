package rill_test

import (
	"strings"
	"sync"
	"sync/atomic"
	"testing"

	"rill/rill"
)

// P4: a name stands for the number that its text had then.
func TestLetOrdinary(t *testing.T) {
	b := bookOf(t, "α", "1÷(1+i)", "β", "α+1", "ω", " −β′ ", "ς", "2½")
	wantValues(t, b, []valueCase{
		{"α", [4]int{1, 2, -1, 2}}, {"β", [4]int{3, 2, -1, 2}}, {"ω", [4]int{-3, 2, -1, 2}}, {"ς", [4]int{5, 2, 0, 1}},
		{"α×α+β×2−ω", [4]int{9, 2, -1, 1}},
	})
}

// P4: what is not just one name, whatever stands behind it.
func TestLetNames(t *testing.T) {
	b := rill.New()
	long := strings.Repeat("1", 121)
	for _, name := range []string{"", " ", "αβ", "αα", " α", "α ", "(α)", "a", "i", "1", "½", "Α", "ΰ", "ϊ", "α\xff", "\xff", "\xce", "\xb1", "α\x00", "\ufffd", "α′", strings.Repeat("α", 1<<20)} {
		for _, text := range []string{"1", "", "1+", "α", "1÷0", "999²²", long} {
			wantLet(t, b, name, text, rill.ErrName, 0)
		}
	}
	wantRefused(t, b, []faultCase{{"α", rill.ErrName, 0}})
	for letter := 'α'; letter <= 'ω'; letter++ {
		name := string(letter)
		wantValues(t, bookOf(t, name, "7"), []valueCase{{name, [4]int{7, 1, 0, 1}}})
	}
}

// P4, P1: the errors of Value, with their places; and they change nothing.
func TestLetRefusedChangesNothing(t *testing.T) {
	b := bookOf(t, "α", "5", "β", "7")
	for _, c := range []faultCase{
		{"", rill.ErrText, 0}, {"(", rill.ErrText, 1}, {"1\xff", rill.ErrText, 1}, {"α+", rill.ErrText, 3}, {strings.Repeat(" ", 120) + "1", rill.ErrLong, 0},
		{"γ", rill.ErrName, 0}, {"α+γ", rill.ErrName, 3}, {"1÷0+δ", rill.ErrName, 5}, {"1÷0", rill.ErrZero, 1}, {"α÷(β−7)", rill.ErrZero, 2}, {"999²²", rill.ErrBig, 5}, {"α×999²", rill.ErrBig, 2},
	} {
		for _, name := range []string{"α", "γ"} {
			wantLet(t, b, name, c.text, c.err, c.place)
		}
		wantValues(t, b, []valueCase{{"α", [4]int{5, 1, 0, 1}}, {"α×β", [4]int{35, 1, 0, 1}}})
		wantRefused(t, b, []faultCase{{"γ", rill.ErrName, 0}, {"α+γ", rill.ErrName, 3}})
	}
}

// P4: MaxNames names and one more, in the order of errors; and those that the book has, once more.
func TestLetMany(t *testing.T) {
	b := bookOf(t, "α", "1", "β", "2", "γ", "3", "δ", "4", "ε", "5", "ζ", "6", "η", "7")
	wantLet(t, b, "α", "11", rill.OK, 0) // a name that is there takes no room
	wantLet(t, b, "θ", "8", rill.OK, 0)
	wantLet(t, b, "ι", "9", rill.ErrMany, 0)
	wantLet(t, b, "ω", "α", rill.ErrMany, 0)
	wantLet(t, b, "ι", "(", rill.ErrText, 1)
	wantLet(t, b, "ι", "1+ι", rill.ErrName, 2)
	wantLet(t, b, "ι", "1÷0", rill.ErrZero, 1)
	wantLet(t, b, "ι", "999²²", rill.ErrBig, 5)
	wantLet(t, b, "ικ", "1", rill.ErrName, 0)
	wantRefused(t, b, []faultCase{{"ι", rill.ErrName, 0}, {"θ+ω", rill.ErrName, 3}})
	wantLet(t, b, "θ", "α+β", rill.OK, 0)
	wantLet(t, b, "α", "α+1", rill.OK, 0)
	wantLet(t, b, "ι", "9", rill.ErrMany, 0)
	wantValues(t, b, []valueCase{{"θ", [4]int{13, 1, 0, 1}}, {"α", [4]int{12, 1, 0, 1}}, {"α+β+γ+δ+ε+ζ+η+θ", [4]int{52, 1, 0, 1}}})
}

// P4, P2: what was worked with a name before is worked anew, and what was let by it stays.
func TestLetAnew(t *testing.T) {
	b := rill.New()
	wantRefused(t, b, []faultCase{{"α+1", rill.ErrName, 0}})
	wantLet(t, b, "α", "2", rill.OK, 0)
	wantLet(t, b, "β", "α²", rill.OK, 0)
	wantValues(t, b, []valueCase{{"α+1", [4]int{3, 1, 0, 1}}, {"β", [4]int{4, 1, 0, 1}}, {"1÷α", [4]int{1, 2, 0, 1}}, {"1÷(α−3)", [4]int{-1, 1, 0, 1}}})
	wantLet(t, b, "α", "3", rill.OK, 0)
	wantValues(t, b, []valueCase{{"α+1", [4]int{4, 1, 0, 1}}, {"β", [4]int{4, 1, 0, 1}}, {"1÷α", [4]int{1, 3, 0, 1}}})
	wantRefused(t, b, []faultCase{{"1÷(α−3)", rill.ErrZero, 1}})
	wantLet(t, b, "α", "α×i", rill.OK, 0)
	wantValues(t, b, []valueCase{{"α+1", [4]int{1, 1, 3, 1}}, {"1÷(α−3)", [4]int{-1, 6, -1, 6}}})
	wantLet(t, b, "α", "2", rill.OK, 0)
	wantValues(t, b, []valueCase{{"α+1", [4]int{3, 1, 0, 1}}})
}

// P2: two books share nothing.
func TestTwoBooks(t *testing.T) {
	one, other := bookOf(t, "α", "1"), rill.New()
	wantRefused(t, other, []faultCase{{"α", rill.ErrName, 0}})
	wantLet(t, other, "α", "2", rill.OK, 0)
	wantLet(t, other, "β", "3", rill.OK, 0)
	wantValues(t, one, []valueCase{{"α", [4]int{1, 1, 0, 1}}, {"α+1", [4]int{2, 1, 0, 1}}})
	wantValues(t, other, []valueCase{{"α", [4]int{2, 1, 0, 1}}, {"α+1", [4]int{3, 1, 0, 1}}})
	wantRefused(t, one, []faultCase{{"β", rill.ErrName, 0}})
}

// P2: a book that was asked for more than it keeps answers as before.
func TestValueOfManyTexts(t *testing.T) {
	b := bookOf(t, "α", "½")
	for range 2 {
		for n := range 1000 {
			text := "α×" + numeralOf(n)
			got, err, place := b.Value(text)
			want := [4]int{n, 2, 0, 1}
			if n%2 == 0 {
				want = [4]int{n / 2, 1, 0, 1}
			}
			if got != want || err != rill.OK || place != 0 {
				t.Fatalf("Value(%q) = %v %d %d, want %v 0 0", text, got, err, place, want)
			}
		}
	}
}

// numeralOf writes a number from 0 to 999.
func numeralOf(n int) string {
	digits := string([]byte{byte('0' + n/100), byte('0' + n/10%10), byte('0' + n%10)})
	if text := strings.TrimLeft(digits, "0"); text != "" {
		return text
	}
	return "0"
}

// P2: no Let is lost among those of other goroutines: each reads what the one ahead of it wrote.
func TestLetAtTheSameTime(t *testing.T) {
	b := bookOf(t, "α", "0")
	var all sync.WaitGroup
	for range 16 {
		all.Go(func() {
			for range 200 {
				if err, place := b.Let("α", "α+1"); err != rill.OK || place != 0 {
					t.Errorf("Let(α, α+1) = %d %d", err, place)
				}
			}
		})
	}
	all.Wait()
	wantValues(t, b, []valueCase{{"α", [4]int{3200, 1, 0, 1}}})
}

// P2: a call of Value sees one state of the book, though others change it: of α no two numbers.
func TestValueAtTheSameTime(t *testing.T) {
	b := bookOf(t, "α", "1")
	var all sync.WaitGroup
	for range 4 {
		all.Go(func() {
			for range 500 {
				b.Let("α", "α+1")
			}
		})
		all.Go(func() {
			last := 0
			for range 2000 {
				if got, err, _ := b.Value("α+(α+α−2×α)×i+1−α"); got != [4]int{1, 1, 0, 1} || err != rill.OK {
					t.Errorf("the book changed within a call: %v %d", got, err)
				}
				got, err, _ := b.Value("α")
				if err != rill.OK || got[0] < last {
					t.Errorf("α was %d, and then %v %d", last, got, err)
				}
				last = got[0]
			}
		})
	}
	all.Wait()
}

// P2: who lets a name of his own finds it at once, whatever others let and ask meanwhile.
func TestOwnNamesAtTheSameTime(t *testing.T) {
	b := rill.New()
	var all sync.WaitGroup
	for shift := range rune(8) {
		all.Go(func() {
			name := string('α' + shift)
			for n := range 900 {
				if err, _ := b.Let(name, numeralOf(n)); err != rill.OK {
					t.Errorf("Let(%q) = %d", name, err)
				}
				for _, text := range []string{name, name + "×1"} {
					if got, err, place := b.Value(text); got != [4]int{n, 1, 0, 1} || err != rill.OK || place != 0 {
						t.Errorf("Value(%q) = %v %d %d, want %d", text, got, err, place, n)
					}
				}
			}
		})
	}
	all.Wait()
}

// P4, P2: of many names that are let at the same time just MaxNames find room.
func TestManyNamesAtTheSameTime(t *testing.T) {
	for range 50 {
		b := rill.New()
		var room, none atomic.Int32
		var all sync.WaitGroup
		for letter := 'α'; letter <= 'ω'; letter++ {
			all.Go(func() {
				switch err, _ := b.Let(string(letter), "1"); err {
				case rill.OK:
					room.Add(1)
				case rill.ErrMany:
					none.Add(1)
				}
			})
		}
		all.Wait()
		if room.Load() != 8 || none.Load() != 17 {
			t.Fatalf("%d names found room, and %d none", room.Load(), none.Load())
		}
	}
}
