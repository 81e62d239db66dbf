package expr

import (
	"strings"
	"unicode/utf8"
)

// The signs that say what is worked.
const (
	Plus   = '+'
	Minus  = '−'
	Times  = '×'
	Over   = '÷'
	Square = '²'
	Prime  = '′'
)

const (
	blank        = ' '
	unit         = 'i'
	opening      = '('
	closing      = ')'
	firstName    = 'α'
	lastName     = 'ω'
	fractions    = "½¼¾"
	marks        = string(Square) + string(Prime)
	productSigns = string(Times) + string(Over)
	sumSigns     = string(Plus) + string(Minus)
)

// noSign stands where a text has none; as it is no rune, no text has it.
const noSign rune = -1

// Sign is a rune of a text that is no blank, and its place there.
type Sign struct {
	Letter rune
	Place  int
}

// piece is a sign as it stands in a text. That it may stand there, or anywhere, is not said.
type piece struct {
	sign  Sign
	apart bool // behind a blank: it cannot go on with a numeral
}

// piecesOf lists the signs of a text, and noSign at its end. A byte that is no UTF-8 comes as utf8.RuneError, at its own place, and is refused like every rune that is not of the language.
func piecesOf(text string) []piece {
	var list []piece
	apart := false
	for place, letter := range text {
		if letter == blank {
			apart = true
			continue
		}
		list = append(list, piece{Sign{letter, place}, apart})
		apart = false
	}
	return append(list, piece{Sign{noSign, len(text)}, apart})
}

// OneName answers the letter of a text that is just one name, without a blank beside it.
func OneName(text string) (rune, bool) {
	letter, size := utf8.DecodeRuneInString(text)
	return letter, size == len(text) && isName(letter)
}

func isDigit(letter rune) bool { return letter >= '0' && letter <= '9' }

func isFraction(letter rune) bool { return strings.ContainsRune(fractions, letter) }

func isMark(letter rune) bool { return strings.ContainsRune(marks, letter) }

func isName(letter rune) bool { return letter >= firstName && letter <= lastName }
