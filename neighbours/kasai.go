// Package neighbours: what suffixes that stand side by side in the order have in common.
package neighbours

// Kasai tells for each place of the text's order what the suffix there shares with the one ahead of it there.
// It goes from place to place of the text, and finds who stands ahead by the place's rank.
func Kasai(text []int, order []int) []int {
	ranks := ranksOf(order)
	shared := make([]int, len(order))
	common := 0
	for i := 0; i < len(ranks); i++ {
		rank := ranks[i]
		common = lessOne(common)
		if rank == 0 {
			common = 0
		} else {
			common = inCommon(text, i, order[rank-1], common)
		}
		shared[rank] = common
	}
	return shared
}

// ranksOf tells for each place where it stands in the order.
func ranksOf(order []int) []int {
	ranks := make([]int, len(order))
	for i := 0; i < len(order); i++ {
		ranks[order[i]] = i
	}
	return ranks
}

// lessOne is how many symbols the next place's suffix shares at the least, if this place's shares so many.
// Both suffixes without their first symbol stand in the same order and share one less, and what stands between them shares no less.
func lessOne(common int) int {
	if common > 0 {
		return common - 1
	}
	return 0
}

// inCommon counts the symbols that the suffixes at two places have in common, so many of which are known.
func inCommon(text []int, a int, b int, known int) int {
	common := known
	for a+common < len(text) && b+common < len(text) && text[a+common] == text[b+common] {
		common++
	}
	return common
}
