package rill

import (
	"errors"

	"rill/expr"
	"rill/number"
)

// work makes the operations of an expression. All names are asked for ahead of them: a name that is not there is the error that is named first.
func (p *page) work(node expr.Node) (number.Number, Errno, int) {
	for name := range expr.Names(node) {
		if _, has := p.names[name.Letter]; !has {
			return number.Number{}, ErrName, name.Place
		}
	}
	return p.workPart(node)
}

func (p *page) workPart(node expr.Node) (number.Number, Errno, int) {
	switch n := node.(type) {
	case expr.Numeral:
		return number.OfQuarters(n.Quarters()), OK, 0
	case expr.Unit:
		return number.Unit(), OK, 0
	case expr.Name:
		return p.names[n.Letter], OK, 0
	case expr.Negated:
		of, err, place := p.workPart(n.Of)
		return number.Negate(of), err, place
	case expr.Marked:
		return p.workMarked(n)
	case expr.Product:
		return p.workTwo(n.Left, n.Sign, n.Right)
	case expr.Sum:
		return p.workTwo(n.Left, n.Sign, n.Right)
	}
	return number.Number{}, ErrText, 0
}

func (p *page) workMarked(n expr.Marked) (number.Number, Errno, int) {
	of, err, place := p.workPart(n.Of)
	if err != OK {
		return of, err, place
	}
	if n.Mark.Letter == expr.Square {
		return operate(of, expr.Times, of, n.Mark.Place)
	}
	return number.Conjugate(of), OK, 0
}

// workTwo works the left one first: if both fail, it is the one that is told.
func (p *page) workTwo(left expr.Node, sign expr.Sign, right expr.Node) (number.Number, Errno, int) {
	x, err, place := p.workPart(left)
	if err != OK {
		return x, err, place
	}
	y, err, place := p.workPart(right)
	if err != OK {
		return y, err, place
	}
	return operate(x, sign.Letter, y, sign.Place)
}

// operate makes one operation, whose sign stands at that place.
func operate(x number.Number, letter rune, y number.Number, place int) (number.Number, Errno, int) {
	made, err := operation(letter)(x, y)
	if errors.Is(err, number.ErrZero) {
		return number.Number{}, ErrZero, place
	}
	if err != nil {
		return number.Number{}, ErrBig, place
	}
	return made, OK, 0
}

func operation(letter rune) func(x, y number.Number) (number.Number, error) {
	switch letter {
	case expr.Plus:
		return number.Add
	case expr.Minus:
		return number.Subtract
	case expr.Times:
		return number.Multiply
	}
	return number.Divide
}
