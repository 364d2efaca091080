package fits

import (
	"math/bits"
	"slices"

	"cloche/api"
)

// vector has a number for each fashion; where a market has fewer fashions, the
// others have 0.
type vector [api.MaxFashions]int

// alone is the mixture of one fashion.
func alone(fashion int) vector {
	var v vector
	v[fashion] = 1
	return v
}

func (v vector) times(n int) vector {
	for i := range v {
		v[i] *= n
	}
	return v
}

func (v vector) minus(w vector) vector {
	for i := range v {
		v[i] -= w[i]
	}
	return v
}

func (v vector) sum() int {
	sum := 0
	for _, number := range v {
		sum += number
	}
	return sum
}

// cross returns a vector at right angles to two others. All that are so are its
// multiples, unless it is 0.
func cross(v, w vector) vector {
	return vector{v[1]*w[2] - v[2]*w[1], v[2]*w[0] - v[0]*w[2], v[0]*w[1] - v[1]*w[0]}
}

// mixture is api.Parts that can be compared with ==.
type mixture struct {
	nums vector
	den  int
}

// mixtureOf takes Parts that are a mixture.
func mixtureOf(x api.Parts) mixture {
	m := mixture{den: x.Den}
	copy(m.nums[:], x.Nums)
	return m
}

// inLowest returns the mixture whose parts are as these numbers to each other.
func inLowest(nums vector) mixture {
	common := nums.sum()
	for _, num := range nums {
		common = divisor(common, num)
	}
	m := mixture{den: nums.sum() / common}
	for i, num := range nums {
		m.nums[i] = num / common
	}
	return m
}

func (x mixture) parts(size int) api.Parts {
	return api.Parts{Nums: slices.Clone(x.nums[:size]), Den: x.den}
}

// fashions is the set of the fashions that have a part.
func (x mixture) fashions() int {
	set := 0
	for i, num := range x.nums {
		if num > 0 {
			set |= 1 << i
		}
	}
	return set
}

func has(set, fashion int) bool { return set>>fashion&1 == 1 }

// market is a table, with the number of its fashions.
type market struct {
	size int
	rows [api.MaxFashions]vector
}

func marketOf(table [][]int) market {
	m := market{size: len(table)}
	for i, row := range table {
		copy(m.rows[i][:], row)
	}
	return m
}

// gain is g of two mixtures, times both their denominators.
func (m market) gain(x, y vector) int {
	gain := 0
	for i, row := range m.rows {
		for k, number := range row {
			gain += x[i] * y[k] * number
		}
	}
	return gain
}

func (m market) best(x mixture) int {
	set, most := 0, 0
	for i := range m.size {
		gain := m.gain(alone(i), x.nums)
		if set == 0 || gain > most {
			set, most = 0, gain
		}
		if gain == most {
			set |= 1 << i
		}
	}
	return set
}

// atRest goes by the fashions (P6.6): what a mixture gains lies between what
// its fashions gain.
func (m market) atRest(x mixture) bool {
	return x.fashions()&^m.best(x) == 0
}

// resting does what Resting does; it also tells whether there is a mixture.
func (m market) resting(fashions int) (mixture, bool) {
	conditions := m.conditions(fashions)
	nums := cross(conditions[0], conditions[1])
	if nums.sum() < 0 {
		nums = nums.times(-1)
	}
	for i, num := range nums {
		// nums is 0 if one condition follows from the other one; there is no such
		// mixture then, or there are many.
		if has(fashions, i) && num <= 0 {
			return mixture{}, false
		}
	}
	return inLowest(nums), true
}

// conditions returns two vectors to which the parts of a mixture are at right
// angles exactly if it has none but these fashions, and all of these gain the
// same against it: each fashion that is not in the set, and what each but the
// first in it gains more than the one before.
func (m market) conditions(fashions int) []vector {
	var list []vector
	before := -1
	for i, row := range m.rows {
		if !has(fashions, i) {
			list = append(list, alone(i))
			continue
		}
		if before >= 0 {
			list = append(list, row.minus(m.rows[before]))
		}
		before = i
	}
	return list
}

// lasts does what Lasts does. What gains as much as x against it is y = x + z, z
// being a sum of parts of steps, and what x then gains more than y against y is
// what z loses against z; so x lasts exactly if all these z but 0 lose. If x has
// several fashions, a step to one of them may also be gone back; as -z loses what
// z does, the z are then all sums of the steps, forward and back.
func (m market) lasts(x mixture) bool {
	if !m.atRest(x) {
		return false
	}
	steps := m.steps(x)
	for _, step := range steps {
		if m.gain(step, step) >= 0 {
			return false
		}
	}
	if len(steps) < 2 {
		return true
	}
	one, other := steps[0], steps[1]
	mixed := m.gain(one, other) + m.gain(other, one)
	if x.den == 1 && mixed <= 0 {
		return true // x is one fashion alone: no step is gone back
	}
	return mixed*mixed < 4*m.gain(one, one)*m.gain(other, other)
}

// steps returns the ways from a mixture at rest to the other fashions that gain
// most against it, each away from one of its own fashions.
func (m market) steps(x mixture) []vector {
	best := m.best(x)
	from := bits.TrailingZeros(uint(x.fashions()))
	var steps []vector
	for i := range m.size {
		if has(best, i) && i != from {
			steps = append(steps, alone(i).minus(alone(from)))
		}
	}
	return steps
}

// meeting is a mixture, the host, and another one, its guest. The numbers of
// both are over the same denominator, at most the square of MaxDen, which
// leaves room in an int for the gains and what is reckoned with them.
type meeting struct {
	market      market
	host, guest vector
}

func meetingOf(m market, x, y mixture) meeting {
	return meeting{market: m, host: x.nums.times(y.den), guest: y.nums.times(x.den)}
}

// At home all others are as the host, abroad as the guest.

func (m meeting) hostAtHome() int  { return m.market.gain(m.host, m.host) }
func (m meeting) guestAtHome() int { return m.market.gain(m.guest, m.host) }
func (m meeting) hostAbroad() int  { return m.market.gain(m.host, m.guest) }
func (m meeting) guestAbroad() int { return m.market.gain(m.guest, m.guest) }

// lead returns what one of two gains is above the other one.
func (m meeting) lead(one, other func(meeting) int) int { return one(m) - other(m) }
