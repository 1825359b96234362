package neighbours

import "suffixes/texts"

// IsShared tells whether a list is what neighbours of the text's order share.
func IsShared(text []int, order []int, list []int) bool {
	shared := Kasai(text, order)
	return texts.Same(list, shared)
}
