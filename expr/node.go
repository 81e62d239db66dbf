// Package expr: expressions, as DOC.md's 'Words' say them: read from a text, and written in their one form.
package expr

import "iter"

// Node is an expression, or a part of one: it holds one of the types below. The brackets of a text are no part of it: how the nodes hang together says the same.
type Node interface{ isNode() }

// Numeral is kept as it was written: 0½ and ½ are the same number, but not the same text.
type Numeral struct{ Text string }

// Unit is i.
type Unit struct{}

// Name is one letter. Its place is kept, for it may be a name that nobody knows.
type Name struct {
	Letter rune
	Place  int
}

// Marked has ² or ′ behind it.
type Marked struct {
	Of   Node
	Mark Sign
}

// Negated has − ahead of it. Its place is not kept: to negate a number never fails.
type Negated struct{ Of Node }

// Product is two with × or ÷ between them.
type Product struct {
	Left  Node
	Sign  Sign
	Right Node
}

// Sum is two with + or − between them.
type Sum struct {
	Left  Node
	Sign  Sign
	Right Node
}

func (Numeral) isNode() {}
func (Unit) isNode()    {}
func (Name) isNode()    {}
func (Marked) isNode()  {}
func (Negated) isNode() {}
func (Product) isNode() {}
func (Sum) isNode()     {}

// Quarters is the numeral's number times 4, which is whole for every numeral.
func (n Numeral) Quarters() int {
	whole, behind := 0, 0
	for _, letter := range n.Text {
		switch letter {
		case '¼':
			behind = 1
		case '½':
			behind = 2
		case '¾':
			behind = 3
		default:
			whole = 10*whole + int(letter-'0')
		}
	}
	return 4*whole + behind
}

// Names hands out the names of an expression in the order of its text.
func Names(node Node) iter.Seq[Name] {
	return func(yield func(Name) bool) { eachName(node, yield) }
}

// eachName answers false as soon as yield does.
func eachName(node Node, yield func(Name) bool) bool {
	switch n := node.(type) {
	case Name:
		return yield(n)
	case Marked:
		return eachName(n.Of, yield)
	case Negated:
		return eachName(n.Of, yield)
	case Product:
		return eachName(n.Left, yield) && eachName(n.Right, yield)
	case Sum:
		return eachName(n.Left, yield) && eachName(n.Right, yield)
	}
	return true
}
