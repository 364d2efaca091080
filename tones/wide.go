package tones

const (
	digitBits = 24
	base      = 1 << digitBits
)

// wide is a whole number of any size: the sum of its digits times base^k, each from
// -base/2 to base/2 - 1, without a 0 as the last one. (The numbers of a chain soon pass
// those of an int.) With digits of both signs, sums and products of negative numbers
// need no care, and the last digit has the sign of the number.
type wide []int

func wideOf(number int) wide { return settled([]int{number}) }

// settled makes digits of any size a number; it changes the list.
func settled(digits []int) wide {
	carry := 0
	for k := range digits {
		sum := digits[k] + carry
		carry = carryOf(sum)
		digits[k] = sum - carry*base
	}
	for carry != 0 {
		sum := carry
		carry = carryOf(sum)
		digits = append(digits, sum-carry*base)
	}
	for len(digits) > 0 && digits[len(digits)-1] == 0 {
		digits = digits[:len(digits)-1]
	}
	return digits
}

// carryOf returns what a sum at one place brings to the next one, so that a digit is
// left. (A shift divides downwards.)
func carryOf(sum int) int { return (sum + base/2) >> digitBits }

func (a wide) sign() int {
	if len(a) == 0 {
		return 0
	}
	if a[len(a)-1] < 0 {
		return -1
	}
	return 1
}

// plus returns a and b times a factor that is not larger than MaxX.
func (a wide) plus(factor int, b wide) wide {
	digits := make([]int, max(len(a), len(b)))
	copy(digits, a)
	for k, digit := range b {
		digits[k] += factor * digit
	}
	return settled(digits)
}

// times returns the product. The numbers of a chain have fewer than 300 digits, and it
// takes 2^16 of them for a sum of products that passes an int.
func (a wide) times(b wide) wide {
	digits := make([]int, len(a)+len(b))
	for i, one := range a {
		for k, other := range b {
			digits[i+k] += one * other
		}
	}
	return settled(digits)
}
