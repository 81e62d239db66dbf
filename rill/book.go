package rill

import (
	"maps"
	"strings"
	"sync"

	"rill/expr"
	"rill/keep"
	"rill/number"
)

const (
	maxNames = 8  // how many names a book may have
	mostKept = 64 // how many worked texts a page keeps: a bound, so that a book does not grow with each call
)

// Book is names that stand for numbers. Make it by New.
type Book struct {
	lock sync.Mutex
	open *page
}

// page is a book from one change to the next. Its names never change, so what was worked with them stays right; and what a slow asker keeps on a page that is no longer open, nobody is told.
type page struct {
	names  map[rune]number.Number
	worked *keep.Table[string, number.Number]
}

// New makes a book without names.
func New() *Book { return &Book{open: newPage(map[rune]number.Number{})} }

func newPage(names map[rune]number.Number) *page {
	return &page{names, keep.New[string, number.Number](mostKept)}
}

// Let lets a name stand for a number (P4).
func (b *Book) Let(name string, text string) (Errno, int) {
	letter, ok := expr.OneName(name)
	if !ok {
		return ErrName, 0
	}
	// The lock is held throughout, so that no other Let comes between the names that are read and those that are written.
	b.lock.Lock()
	defer b.lock.Unlock()
	value, err, place := b.open.number(text)
	if err != OK {
		return err, place
	}
	if !b.open.hasRoom(letter) {
		return ErrMany, 0
	}
	b.open = b.open.with(letter, value)
	return OK, 0
}

// Value works an expression (P5).
func (b *Book) Value(text string) ([4]int, Errno, int) {
	value, err, place := b.current().number(text)
	if err != OK {
		return [4]int{}, err, place
	}
	re, im := value.Re, value.Im
	return [4]int{int(re.Num), int(re.Den), int(im.Num), int(im.Den)}, OK, 0
}

func (b *Book) current() *page {
	b.lock.Lock()
	defer b.lock.Unlock()
	return b.open
}

// hasRoom says whether a name may be given a number: if it has one, always.
func (p *page) hasRoom(letter rune) bool {
	_, has := p.names[letter]
	return has || len(p.names) < maxNames
}

// with is the page that comes behind this one.
func (p *page) with(letter rune, value number.Number) *page {
	names := maps.Clone(p.names)
	names[letter] = value
	return newPage(names)
}

// number works a text, unless it was worked on this page before.
func (p *page) number(text string) (number.Number, Errno, int) {
	if value, ok := p.worked.Get(text); ok {
		return value, OK, 0
	}
	node, err, place := read(text)
	if err != OK {
		return number.Number{}, err, place
	}
	value, err, place := p.work(node)
	if err == OK {
		p.worked.Keep(strings.Clone(text), value) // a string that was handed in is not kept
	}
	return value, err, place
}
