package neighbours

// Phi tells what Kasai tells, but needs no ranks: it notes for each place who stands ahead of it.
func Phi(text []int, order []int) []int {
	before := Before(order)
	longest := Longest(text, before)
	shared := make([]int, len(order))
	for i := 0; i < len(order); i++ {
		shared[i] = longest[order[i]]
	}
	return shared
}
