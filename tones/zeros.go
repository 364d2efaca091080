package tones

import "slices"

// list is the numbers of a polynomial, that of x^k at k, without a 0 as its last one.
type list []wide

func (l list) degree() int { return len(l) - 1 }

func (l list) last() wide { return l[len(l)-1] }

// polynomial is one whose numbers may be as large as they come to be.
type polynomial struct{ list }

func polynomialOf(numbers []int) polynomial {
	var p polynomial
	for _, number := range numbers {
		p.list = append(p.list, wideOf(number))
	}
	return p
}

// slope returns the derivative.
func (p polynomial) slope() polynomial {
	var slope polynomial
	for k, number := range p.list {
		if k > 0 {
			slope.list = append(slope.list, wide{}.plus(k, number))
		}
	}
	return slope
}

func (p polynomial) negated() polynomial {
	var negated polynomial
	for _, number := range p.list {
		negated.list = append(negated.list, wide{}.plus(-1, number))
	}
	return negated
}

// over returns the remainder of p by another polynomial (not 0), times a number above
// 0 that makes it whole.
func (p polynomial) over(by polynomial) polynomial {
	if by.last().sign() < 0 {
		by = by.negated()
	}
	for p.degree() >= by.degree() {
		p = p.lowered(by)
	}
	return p
}

// lowered returns p, times the last number of by, less what of by takes its last
// number away.
func (p polynomial) lowered(by polynomial) polynomial {
	behind := p.degree() - by.degree()
	var rest polynomial
	for k := range p.degree() {
		number := p.list[k].times(by.last())
		if k >= behind {
			number = number.plus(-1, by.list[k-behind].times(p.last()))
		}
		rest.list = append(rest.list, number)
	}
	for len(rest.list) > 0 && rest.last().sign() == 0 {
		rest.list = rest.list[:rest.degree()]
	}
	return rest
}

// signAbove returns the sign that p has just above x, which is 0 only if p is, also
// where x is a zero.
func (p polynomial) signAbove(x int) int {
	// Divided by X - x, again and again, it leaves its numbers for the powers of X - x.
	numbers := slices.Clone(p.list)
	for first := range numbers {
		for k := numbers.degree() - 1; k >= first; k-- {
			numbers[k] = numbers[k].plus(x, numbers[k+1])
		}
		if sign := numbers[first].sign(); sign != 0 {
			return sign
		}
	}
	return 0
}

// chainOf returns Sturm's chain of p (not 0): p, its derivative, and then what is left
// of the last but one over the last, negated.
func chainOf(p polynomial) []polynomial {
	chain := []polynomial{p}
	next := p.slope()
	for len(next.list) > 0 {
		chain = append(chain, next)
		left := p.over(next).negated()
		p, next = next, left
	}
	return chain
}

// changesAbove returns how often the sign changes along a chain, just above x. No
// polynomial of the chain is 0 there, so that from one place to another it loses one
// change for each zero of the first between them, whether it is a multiple one or not
// (Sturm).
func changesAbove(chain []polynomial, x int) int {
	changes := 0
	before := chain[0].signAbove(x)
	for _, p := range chain[1:] {
		sign := p.signAbove(x)
		if sign != before {
			changes++
		}
		before = sign
	}
	return changes
}
