package rill_test

import (
	"testing"

	"rill/rill"
)

// The calls with their signatures: if one changes, this file does not build.
var (
	_ func(string) (string, rill.Errno, int)                             = rill.Print
	_ func() *rill.Book                                                  = rill.New
	_ func(*rill.Book, string, string) (rill.Errno, int)                 = (*rill.Book).Let
	_ func(*rill.Book, string) ([4]int, rill.Errno, int)                 = (*rill.Book).Value
	_ func(*rill.Book, string, int) (int, []rill.Digit, rill.Errno, int) = (*rill.Book).Digits
	_ func(*rill.Book, string, int) ([2]int, rill.Errno, int)            = (*rill.Book).Near
	_ rill.Digit                                                         = rill.Digit{Re: 1, Im: -1}
)

func TestErrorNumbers(t *testing.T) {
	for number, err := range []rill.Errno{rill.OK, rill.ErrLong, rill.ErrText, rill.ErrName, rill.ErrZero, rill.ErrBig, rill.ErrRange, rill.ErrMany} {
		if int(err) != number {
			t.Errorf("error %d has the number %d", number, int(err))
		}
	}
}

func TestNewAnswersABook(t *testing.T) {
	if rill.New() == nil {
		t.Error("New() = nil")
	}
}
