package expr

import "strings"

// level says how tightly an expression holds together, the loosest one first.
type level int

const (
	asSum level = iota
	asProduct
	asFactor
	asMarked // or tighter: wherever a marked one may stand without brackets, a primary may, and the other way round
)

func levelOf(node Node) level {
	switch node.(type) {
	case Sum:
		return asSum
	case Product:
		return asProduct
	case Negated:
		return asFactor
	}
	return asMarked
}

// Write tells an expression without blanks, and with those brackets alone without which Parse would read another one.
func Write(node Node) string {
	var out strings.Builder
	write(&out, node)
	return out.String()
}

func write(out *strings.Builder, node Node) {
	switch n := node.(type) {
	case Numeral:
		out.WriteString(n.Text)
	case Unit:
		out.WriteRune(unit)
	case Name:
		out.WriteRune(n.Letter)
	case Marked:
		writeAs(out, n.Of, asMarked)
		out.WriteRune(n.Mark.Letter)
	case Negated:
		out.WriteRune(Minus)
		writeAs(out, n.Of, asFactor)
	case Product:
		// A row is worked from the left on, so on the right a row of the same kind needs brackets.
		writeAs(out, n.Left, asProduct)
		out.WriteRune(n.Sign.Letter)
		writeAs(out, n.Right, asFactor)
	case Sum:
		writeAs(out, n.Left, asSum)
		out.WriteRune(n.Sign.Letter)
		writeAs(out, n.Right, asProduct)
	}
}

// writeAs writes what stands where the grammar asks for that level at least.
func writeAs(out *strings.Builder, node Node, least level) {
	if levelOf(node) >= least {
		write(out, node)
		return
	}
	out.WriteRune(opening)
	write(out, node)
	out.WriteRune(closing)
}
