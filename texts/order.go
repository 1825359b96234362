package texts

import "suffixes/api"

// IsOrder tells whether a list is the order of a text, and the text is one over some alphabet.
func IsOrder(text []int, order []int) bool {
	if len(text) > api.MaxText || len(order) != len(text) {
		return false
	}
	// Fault would not do here: no k is handed in, and none lets the greatest number be a symbol.
	if !allFrom0(text) {
		return false
	}
	if firstOutside(order, len(text)) < len(order) {
		return false
	}
	// Suffixes that rise are all different, so with this no place stands twice, and none is missing.
	for i := 1; i < len(order); i++ {
		if !Lesser(text[order[i-1]:], text[order[i]:]) {
			return false
		}
	}
	return true
}

// allFrom0 tells whether no number of a list is below 0.
func allFrom0(list []int) bool {
	for i := 0; i < len(list); i++ {
		if list[i] < 0 {
			return false
		}
	}
	return true
}

// Lesser tells whether the list a is lesser than the list b.
func Lesser(a []int, b []int) bool {
	for i := 0; i < len(a) && i < len(b); i++ {
		if a[i] != b[i] {
			return a[i] < b[i]
		}
	}
	return len(a) < len(b)
}

// Same tells whether two lists have the same numbers.
func Same(a []int, b []int) bool {
	if len(a) != len(b) {
		return false
	}
	for i := 0; i < len(a); i++ {
		if a[i] != b[i] {
			return false
		}
	}
	return true
}
