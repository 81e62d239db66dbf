package expr

import "strings"

// mostDigits is how many digits a numeral may have.
const mostDigits = 3

// Parse reads an expression. If the text is none, it answers false, and the place up to which it could have become one.
func Parse(text string) (Node, int, bool) {
	p := &parser{left: piecesOf(text)}
	node, ok := p.sum()
	if !ok || p.ahead() != noSign {
		return nil, p.left[0].sign.Place, false
	}
	return node, 0, true
}

// parser takes a sign only when it may stand there: so the first one that is left tells the place of a fault. What is left never becomes empty, for noSign is never taken.
type parser struct{ left []piece }

func (p *parser) ahead() rune { return p.left[0].sign.Letter }

// joined is the sign ahead, if no blank parts it from the one that was taken last.
func (p *parser) joined() rune {
	if p.left[0].apart {
		return noSign
	}
	return p.ahead()
}

func (p *parser) take() Sign {
	sign := p.left[0].sign
	p.left = p.left[1:]
	return sign
}

func (p *parser) sum() (Node, bool) {
	return p.row(p.product, sumSigns, func(left Node, sign Sign, right Node) Node {
		return Sum{left, sign, right}
	})
}

func (p *parser) product() (Node, bool) {
	return p.row(p.factor, productSigns, func(left Node, sign Sign, right Node) Node {
		return Product{left, sign, right}
	})
}

// row reads parts with signs between them, and joins them from the left on.
func (p *parser) row(part func() (Node, bool), between string, join func(Node, Sign, Node) Node) (Node, bool) {
	node, ok := part()
	for ok && strings.ContainsRune(between, p.ahead()) {
		sign := p.take()
		var right Node
		right, ok = part()
		node = join(node, sign, right)
	}
	return node, ok
}

func (p *parser) factor() (Node, bool) {
	if p.ahead() == Minus {
		p.take()
		of, ok := p.factor()
		return Negated{of}, ok
	}
	node, ok := p.primary()
	for ok && isMark(p.ahead()) {
		node = Marked{node, p.take()}
	}
	return node, ok
}

func (p *parser) primary() (Node, bool) {
	letter := p.ahead()
	switch {
	case isDigit(letter), isFraction(letter):
		return p.numeral(), true
	case letter == unit:
		p.take()
		return Unit{}, true
	case isName(letter):
		return Name(p.take()), true
	case letter == opening:
		p.take()
		return p.bracketed()
	}
	return nil, false
}

// bracketed reads what stands behind an opening bracket, with the closing one.
func (p *parser) bracketed() (Node, bool) {
	node, ok := p.sum()
	if !ok || p.ahead() != closing {
		return nil, false
	}
	p.take()
	return node, true
}

// numeral takes what belongs to a numeral. A sign too many stays ahead, where nothing of the grammar can take it.
func (p *parser) numeral() Numeral {
	first := p.take().Letter
	text := string(first)
	if isFraction(first) {
		return Numeral{text}
	}
	for first != '0' && len(text) < mostDigits && isDigit(p.joined()) {
		text += string(p.take().Letter)
	}
	if isFraction(p.joined()) {
		text += string(p.take().Letter)
	}
	return Numeral{text}
}
