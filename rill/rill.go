// Package rill: numbers of two parts, reckoned exactly, told digit by digit: see DOC.md.
package rill

import "rill/expr"

// maxText is how many bytes a text may have.
const maxText = 120

// Errno is what a call answers: OK or the reason for a refusal.
type Errno int

const (
	OK       Errno = 0
	ErrLong  Errno = 1 // a text above its bound
	ErrText  Errno = 2 // no expression
	ErrName  Errno = 3 // no name, or one that is not there
	ErrZero  Errno = 4 // divided by 0
	ErrBig   Errno = 5 // a fraction that is too big
	ErrRange Errno = 6 // a number that may not be
	ErrMany  Errno = 7 // too many names
)

// Digit is one, of both parts.
type Digit struct{ Re, Im int }

// Print writes an expression in its one form (P3).
func Print(text string) (string, Errno, int) {
	node, err, place := read(text)
	if err != OK {
		return "", err, place
	}
	return expr.Write(node), OK, 0
}

// read asks for the length first: it is the error that is named first, and it bounds how deep an expression goes.
func read(text string) (expr.Node, Errno, int) {
	if len(text) > maxText {
		return nil, ErrLong, 0
	}
	node, place, ok := expr.Parse(text)
	if !ok {
		return nil, ErrText, place
	}
	return node, OK, 0
}
