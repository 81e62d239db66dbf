// Package expr: expressions, as DOC.md's 'Words' say them: read from a text, and written in their one form.
package expr

// Node is an expression, or a part of one: it holds one of the types below. The brackets of a text are no part of it: how the nodes hang together says the same.
type Node interface{ isNode() }

// Numeral is kept as it was written: 0½ and ½ are the same number, but not the same text.
type Numeral struct{ Text string }

// Unit is i.
type Unit struct{}

// Name is one letter.
type Name struct{ Letter rune }

// Marked has ² or ′ behind it.
type Marked struct {
	Of   Node
	Mark rune
}

// Negated has − ahead of it.
type Negated struct{ Of Node }

// Product is two with × or ÷ between them.
type Product struct {
	Left  Node
	Sign  rune
	Right Node
}

// Sum is two with + or − between them.
type Sum struct {
	Left  Node
	Sign  rune
	Right Node
}

func (Numeral) isNode() {}
func (Unit) isNode()    {}
func (Name) isNode()    {}
func (Marked) isNode()  {}
func (Negated) isNode() {}
func (Product) isNode() {}
func (Sum) isNode()     {}
