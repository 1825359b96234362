package ranks

import "suffixes/texts"

// Sorted is the order of a text, and how often beginnings were doubled to find it.
type Sorted struct {
	Order  []int
	Rounds int
}

// Sort sorts the suffixes by their first 1, 2, 4 .. symbols.
func Sort(text []int) Sorted {
	ranks := ByFirst(text, 1)
	rounds := 0
	// Beginnings as long as the text are whole suffixes, no two of which are the same.
	for h := 1; h < len(text) && !texts.AllDifferent(ranks); h = 2 * h {
		ranks = doubled(ranks, h)
		rounds++
	}
	return Sorted{Order: placesByRank(ranks), Rounds: rounds}
}

// doubled makes the ranks by the first 2h symbols from those by the first h; h is 1 or more.
func doubled(ranks []int, h int) []int {
	longer := make([]int, len(ranks))
	for i := 0; i < len(ranks); i++ {
		for j := 0; j < len(ranks); j++ {
			if isLesser(ranks, h, j, i) {
				longer[i]++
			}
		}
	}
	return longer
}

// isLesser tells whether the first 2h symbols at the place a are lesser than those at b.
func isLesser(ranks []int, h int, a int, b int) bool {
	if ranks[a] != ranks[b] {
		return ranks[a] < ranks[b]
	}
	behindA := rankAt(ranks, a+h)
	behindB := rankAt(ranks, b+h)
	return behindA < behindB
}

// rankAt is the rank of a place; behind the text nothing is left, and that is lesser than every suffix.
func rankAt(ranks []int, place int) int {
	if place < len(ranks) {
		return ranks[place]
	}
	return -1
}

// placesByRank lists the places by their ranks, which are all different and below the list's length.
func placesByRank(ranks []int) []int {
	order := make([]int, len(ranks))
	for i := 0; i < len(ranks); i++ {
		order[ranks[i]] = i
	}
	return order
}
