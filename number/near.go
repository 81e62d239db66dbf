package number

// Near is, for each part, the whole number that is nearest to it times 2^n, n from 0 to 20; of two that are as near the even one.
func Near(x Number, n int) (re, im int64) { return x.Re.near(n), x.Im.near(n) }

func (f Fraction) near(n int) int64 {
	below, rest := floor(f.Num<<n, f.Den)
	if 2*rest > f.Den || 2*rest == f.Den && below%2 != 0 {
		return below + 1
	}
	return below
}

// floor divides downwards, so that the rest is never below 0; the language divides towards 0.
func floor(num, den int64) (whole, rest int64) {
	whole, rest = num/den, num%den
	if rest < 0 {
		return whole - 1, rest + den
	}
	return whole, rest
}
