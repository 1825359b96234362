package neighbours

// Phi tells what Kasai tells, but needs no ranks: it notes for each place who stands ahead of it.
func Phi(text []int, order []int) []int {
	before := beforeEach(order)
	longest := longestOf(text, before)
	shared := make([]int, len(order))
	for i := 0; i < len(order); i++ {
		shared[i] = longest[order[i]]
	}
	return shared
}

// beforeEach tells for each place which one stands just ahead of it in the order; -1 for the first.
func beforeEach(order []int) []int {
	before := make([]int, len(order))
	ahead := -1
	for i := 0; i < len(order); i++ {
		before[order[i]] = ahead
		ahead = order[i]
	}
	return before
}

// longestOf tells for each place what its suffix has in common with the one before it.
func longestOf(text []int, before []int) []int {
	longest := make([]int, len(before))
	common := 0
	for i := 0; i < len(before); i++ {
		common = lessOne(common)
		if before[i] < 0 {
			common = 0
		} else {
			common = inCommon(text, i, before[i], common)
		}
		longest[i] = common
	}
	return longest
}
