package rill_test

import (
	"math/big"
	"math/rand"
	"testing"

	"rill/rill"
)

// This file says what is worked a second time, with the library's fractions, and holds books against it.

type pair struct{ re, im *big.Rat }

// oracle is a book as the document's words say it: its names, and whether a fraction on the way was too big.
type oracle struct {
	names map[string]pair
	big   bool
}

func ratOf(num, den int64) *big.Rat { return big.NewRat(num, den) }

func (o *oracle) way(x *big.Rat) *big.Rat {
	bound := big.NewInt(999999)
	if x.Num().CmpAbs(bound) > 0 || x.Denom().Cmp(bound) > 0 {
		o.big = true
	}
	return x
}

func (o *oracle) add(x, y *big.Rat) *big.Rat { return o.way(new(big.Rat).Add(x, y)) }
func (o *oracle) sub(x, y *big.Rat) *big.Rat { return o.way(new(big.Rat).Sub(x, y)) }
func (o *oracle) mul(x, y *big.Rat) *big.Rat { return o.way(new(big.Rat).Mul(x, y)) }
func (o *oracle) inv(x *big.Rat) *big.Rat    { return o.way(new(big.Rat).Inv(x)) }

// two works a sign between two; false, if it is divided by 0.
func (o *oracle) two(x pair, sign string, y pair) (pair, bool) {
	a, b, c, d := x.re, x.im, y.re, y.im
	switch sign {
	case "+":
		return pair{o.add(a, c), o.add(b, d)}, true
	case "−":
		return pair{o.sub(a, c), o.sub(b, d)}, true
	case "×":
		return pair{o.sub(o.mul(a, c), o.mul(b, d)), o.add(o.mul(a, d), o.mul(b, c))}, true
	}
	n := o.add(o.mul(c, c), o.mul(d, d))
	if n.Sign() == 0 {
		return pair{}, false
	}
	return pair{o.mul(o.add(o.mul(a, c), o.mul(b, d)), o.inv(n)), o.mul(o.sub(o.mul(b, c), o.mul(a, d)), o.inv(n))}, true
}

func numeralRat(text string) *big.Rat {
	sum := new(big.Rat)
	for _, r := range text {
		switch r {
		case '½':
			sum.Add(sum, ratOf(1, 2))
		case '¼':
			sum.Add(sum, ratOf(1, 4))
		case '¾':
			sum.Add(sum, ratOf(3, 4))
		default:
			sum.Add(sum.Mul(sum, ratOf(10, 1)), ratOf(int64(r-'0'), 1))
		}
	}
	return sum
}

// answer is what Value must answer.
func (o *oracle) answer(text string) (pair, rill.Errno, int) {
	if len(text) > 120 {
		return pair{}, rill.ErrLong, 0
	}
	if fault := faultOf(text); fault >= 0 {
		return pair{}, rill.ErrText, fault
	}
	for place, r := range text {
		if _, has := o.names[string(r)]; r >= 'α' && r <= 'ω' && !has {
			return pair{}, rill.ErrName, place
		}
	}
	return o.work(orderOf(text))
}

// work goes through an order with a stack of numbers.
func (o *oracle) work(order []worked) (pair, rill.Errno, int) {
	var stack []pair
	for _, w := range order {
		top := len(stack) - 1
		ok := true
		o.big = false
		switch w.text {
		case "i":
			stack = append(stack, pair{ratOf(0, 1), ratOf(1, 1)})
		case "n":
			stack[top] = pair{new(big.Rat).Neg(stack[top].re), new(big.Rat).Neg(stack[top].im)}
		case "′":
			stack[top] = pair{stack[top].re, new(big.Rat).Neg(stack[top].im)}
		case "²":
			stack[top], _ = o.two(stack[top], "×", stack[top])
		case "+", "−", "×", "÷":
			stack[top-1], ok = o.two(stack[top-1], w.text, stack[top])
			stack = stack[:top]
		default:
			given, has := o.names[w.text]
			if !has {
				given = pair{numeralRat(w.text), ratOf(0, 1)}
			}
			stack = append(stack, given)
		}
		if !ok {
			return pair{}, rill.ErrZero, w.place
		}
		if o.big {
			return pair{}, rill.ErrBig, w.place
		}
	}
	return stack[0], rill.OK, 0
}

func (o *oracle) value(text string) ([4]int, rill.Errno, int) {
	x, err, place := o.answer(text)
	if err != rill.OK {
		return [4]int{}, err, place
	}
	part := func(n *big.Int) int { return int(n.Int64()) }
	return [4]int{part(x.re.Num()), part(x.re.Denom()), part(x.im.Num()), part(x.im.Denom())}, rill.OK, 0
}

func (o *oracle) let(name, text string) (rill.Errno, int) {
	if len(name) != 2 || []rune(name)[0] < 'α' || []rune(name)[0] > 'ω' {
		return rill.ErrName, 0
	}
	x, err, place := o.answer(text)
	if err != rill.OK {
		return err, place
	}
	if _, has := o.names[name]; !has && len(o.names) == 8 {
		return rill.ErrMany, 0
	}
	o.names[name] = x
	return rill.OK, 0
}

// said is an expression of at most so many signs between numbers, of which some are near the bounds and some are names.
func said(some *rand.Rand, signs int) string {
	primaries := []string{"0", "1", "2", "3", "7", "12", "99", "997", "999", "½", "¼", "2¾", "999¼", "i", "i", "(1+i)", "(2−3×i)", "α", "β", "γ", "κ", "ω"}
	if signs == 0 {
		return primaries[some.Intn(len(primaries))]
	}
	left := some.Intn(signs)
	switch some.Intn(10) {
	case 0:
		return "−" + said(some, signs-1)
	case 1:
		return "(" + said(some, signs-1) + ")" + []string{"²", "′"}[some.Intn(2)]
	case 2, 3, 4:
		return "(" + said(some, left) + ") " + []string{"+", "−", "×", "÷"}[some.Intn(4)] + "(" + said(some, signs-1-left) + ")"
	}
	return said(some, left) + []string{"+", "−", "×", "÷"}[some.Intn(4)] + said(some, signs-1-left)
}

func holdValue(t *testing.T, b *rill.Book, o *oracle, text string) rill.Errno {
	want, wantErr, wantPlace := o.value(text)
	got, err, place := b.Value(text)
	if got != want || err != wantErr || place != wantPlace {
		t.Fatalf("Value(%q) = %v %d %d, want %v %d %d", text, got, err, place, want, wantErr, wantPlace)
	}
	return err
}

// P1, P2, P4, P5: calls of one book after the other, held against the oracle; texts come again, with other names.
func TestBooksAgainstOracle(t *testing.T) {
	some := rand.New(rand.NewSource(2))
	letters := []string{"α", "β", "γ", "δ", "ε", "ζ", "η", "θ", "ι", "κ", "", "a", "αα", "ω "}
	values, lets := map[rill.Errno]int{}, map[rill.Errno]int{}
	for range 400 {
		b, o := rill.New(), &oracle{names: map[string]pair{}}
		var texts []string
		for range 8 {
			texts = append(texts, said(some, some.Intn(7)))
		}
		for range 150 {
			text := said(some, some.Intn(7))
			if some.Intn(2) == 0 {
				text = texts[some.Intn(len(texts))]
			}
			if some.Intn(3) > 0 {
				values[holdValue(t, b, o, text)]++
				continue
			}
			name := letters[some.Intn(len(letters))]
			wantErr, wantPlace := o.let(name, text)
			err, place := b.Let(name, text)
			if err != wantErr || place != wantPlace {
				t.Fatalf("Let(%q, %q) = %d %d, want %d %d", name, text, err, place, wantErr, wantPlace)
			}
			lets[err]++
		}
	}
	for _, err := range []rill.Errno{rill.OK, rill.ErrName, rill.ErrZero, rill.ErrBig} {
		if values[err] < 200 || lets[err] < 200 || lets[rill.ErrMany] < 200 {
			t.Errorf("too few answers of one kind: %v %v", values, lets)
		}
	}
}

// P1, P5: every short text.
func TestValueEveryShortText(t *testing.T) {
	b, o := rill.New(), &oracle{names: map[string]pair{}}
	b.Let("α", "999")
	o.let("α", "999")
	pieces := []string{"0", "1", "½", "+", "−", "×", "÷", "(", ")", "i", "²", "α", "β"}
	eachText(pieces, 5, func(text string) { holdValue(t, b, o, text) })
}

func FuzzValue(f *testing.F) {
	f.Add("α×(1−i)÷(2½+β)²", "1÷3")
	f.Add("1÷(1+i²)", "−999")
	f.Fuzz(func(t *testing.T, text, given string) {
		b, o := rill.New(), &oracle{names: map[string]pair{}}
		for _, name := range []string{"α", "β"} {
			wantErr, wantPlace := o.let(name, given)
			if err, place := b.Let(name, given); err != wantErr || place != wantPlace {
				t.Fatalf("Let(%q, %q) = %d %d, want %d %d", name, given, err, place, wantErr, wantPlace)
			}
		}
		holdValue(t, b, o, text)
	})
}
