package expr

import "strings"

const (
	blank        = ' '
	minus        = '−'
	unit         = 'i'
	opening      = '('
	closing      = ')'
	firstName    = 'α'
	lastName     = 'ω'
	fractions    = "½¼¾"
	marks        = "²′"
	productSigns = "×÷"
	sumSigns     = "+−"
)

// noSign stands where a text has none; as it is no rune, no text has it.
const noSign rune = -1

// sign is a rune of a text that is no blank. That it may stand there, or anywhere, is not said.
type sign struct {
	letter rune
	place  int
	apart  bool // behind a blank: it cannot go on with a numeral
}

// signsOf lists the signs of a text, and noSign at its end. A byte that is no UTF-8 comes as utf8.RuneError, at its own place, and is refused like every rune that is not of the language.
func signsOf(text string) []sign {
	var list []sign
	apart := false
	for place, letter := range text {
		if letter == blank {
			apart = true
			continue
		}
		list = append(list, sign{letter, place, apart})
		apart = false
	}
	return append(list, sign{noSign, len(text), apart})
}

func isDigit(letter rune) bool { return letter >= '0' && letter <= '9' }

func isFraction(letter rune) bool { return strings.ContainsRune(fractions, letter) }

func isMark(letter rune) bool { return strings.ContainsRune(marks, letter) }

func isName(letter rune) bool { return letter >= firstName && letter <= lastName }
