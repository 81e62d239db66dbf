package rill

import "rill/number"

// maxDigits is how many digits may be asked for.
const maxDigits = 20

// Digits tells a number digit by digit (P6).
func (b *Book) Digits(text string, k int) (int, []Digit, Errno, int) {
	value, err, place := b.told(text, k)
	if err != OK {
		return 0, nil, err, place
	}
	return number.Exponent(value), firstDigits(value, k), OK, 0
}

// Near tells the whole numbers that are nearest to a number times 2^n (P7).
func (b *Book) Near(text string, n int) ([2]int, Errno, int) {
	value, err, place := b.told(text, n)
	if err != OK {
		return [2]int{}, err, place
	}
	re, im := number.Near(value, n)
	return [2]int{int(re), int(im)}, OK, 0
}

// told is the number that is to be told, to so many digits. It is worked ahead of the look at these, for the errors of Value are named first.
func (b *Book) told(text string, count int) (number.Number, Errno, int) {
	value, err, place := b.current().number(text)
	if err == OK && (count < 0 || count > maxDigits) {
		return number.Number{}, ErrRange, 0
	}
	return value, err, place
}

func firstDigits(value number.Number, k int) []Digit {
	digits := make([]Digit, 0, k)
	for digit := range number.Digits(value) {
		if len(digits) == k {
			break
		}
		digits = append(digits, Digit{int(real(digit)), int(imag(digit))})
	}
	return digits
}
