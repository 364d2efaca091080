package tones

// kind is a kind of the parts that figures consist of.
type kind struct {
	number func(frame []int, knots int) int // how many parts of the kind have just these knots
	weight int                              // by which each of them multiplies that of its figure
}

func wire() kind { return kind{number: wiresOf, weight: -1} }

func ring() kind { return kind{number: ringsOf, weight: -2} }

func wiresOf(frame []int, knots int) int {
	if knotsIn(knots) == 2 && frame[firstIn(knots)]&knots != 0 {
		return 1
	}
	return 0
}

func ringsOf(frame []int, knots int) int {
	if knotsIn(knots) < 3 {
		return 0
	}
	home := firstIn(knots)
	return ways(frame, home, home, knots&^(1<<home)) / 2 // each ring is found in both directions
}

// ways returns how many ways lead from a knot home, by each of the other knots once.
func ways(frame []int, from, home, others int) int {
	if others == 0 && joined(frame, from, home) {
		return 1
	}
	number := 0
	for next := range frame {
		if others>>next&1 == 1 && joined(frame, from, next) {
			number += ways(frame, next, home, others&^(1<<next))
		}
	}
	return number
}

// total is of some figures: the sum of their weights, and their number.
type total struct{ sum, number int }

// figures returns, for each k, the total of all figures with k knots together that
// consist of parts of these kinds.
func figures(frame []int, kinds ...kind) []total {
	parts := partsOf(frame, kinds)
	bySet := make([]total, len(parts))
	bySet[0] = total{sum: 1, number: 1}
	byKnots := make([]total, len(frame)+1)
	byKnots[0] = bySet[0]
	for set := 1; set < len(bySet); set++ {
		bySet[set] = totalOf(parts, bySet, set)
		k := knotsIn(set)
		byKnots[k].sum += bySet[set].sum
		byKnots[k].number += bySet[set].number
	}
	return byKnots
}

// partsOf returns, for each set, the total of the figures of one part with just these
// knots.
func partsOf(frame []int, kinds []kind) []total {
	parts := make([]total, 1<<len(frame))
	for set := range parts {
		for _, one := range kinds {
			number := one.number(frame, set)
			parts[set].sum += number * one.weight
			parts[set].number += number
		}
	}
	return parts
}

// totalOf returns the total of the figures with just the knots of a set, from those
// of the sets below it. The part that has the first knot comes first, so that no
// figure is counted twice.
func totalOf(parts, bySet []total, set int) total {
	var all total
	for part := set; part > 0; part = (part - 1) & set {
		if firstIn(part) == firstIn(set) {
			one, others := parts[part], bySet[set&^part]
			all.sum += one.sum * others.sum
			all.number += one.number * others.number
		}
	}
	return all
}

// byFigures returns the polynomial whose number at n - k is the sum of the figures with
// k knots (for Tones, this is Sachs' theorem).
func byFigures(frame []int, kinds ...kind) []int {
	numbers := make([]int, len(frame)+1)
	for k, all := range figures(frame, kinds...) {
		numbers[len(frame)-k] = all.sum
	}
	return numbers
}
