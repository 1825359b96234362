package neighbours

// IsShared tells whether a list is what neighbours of the text's order share.
func IsShared(text []int, order []int, list []int) bool {
	if len(list) != len(order) {
		return false
	}
	shared := Kasai(text, order)
	for i := 0; i < len(shared); i++ {
		if list[i] != shared[i] {
			return false
		}
	}
	return true
}
