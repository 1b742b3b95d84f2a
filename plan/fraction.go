package plan

import "cmp"

// whole is how many thousandths are 1.
const whole = 1000

func thousandths(n int) Fraction { return over(n, whole) }

func divisor(n, other int) int {
	for other != 0 {
		n, other = other, n%other
	}
	return n
}

// over returns a fraction in its lowest terms.
func over(num, den int) Fraction {
	by := divisor(num, den)
	return Fraction{num / by, den / by}
}

func (f Fraction) compare(other Fraction) int {
	return cmp.Compare(product(f.Num, other.Den), product(other.Num, f.Den))
}
