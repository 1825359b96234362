package neighbours

// Before tells for each place which one stands just ahead of it in the text's order; -1 for the first.
func Before(order []int) []int {
	before := make([]int, len(order))
	ahead := -1
	for i := 0; i < len(order); i++ {
		before[order[i]] = ahead
		ahead = order[i]
	}
	return before
}

// Longest tells for each place what its suffix has in common with the one that Before tells.
func Longest(text []int, before []int) []int {
	longest := make([]int, len(before))
	common := 0
	for i := 0; i < len(before); i++ {
		common = lessOne(common)
		if before[i] < 0 {
			common = 0
		} else {
			common = inCommon(text, i, before[i], common)
		}
		longest[i] = common
	}
	return longest
}
