// Package ranks: the suffixes of a text, ranked by their beginnings.
package ranks

import "suffixes/texts"

// ByFirst tells for each place how many suffixes have first h symbols that are lesser than its own.
// h is 0 or more.
func ByFirst(text []int, h int) []int {
	ranks := make([]int, len(text))
	for i := 0; i < len(text); i++ {
		own := beginning(text[i:], h)
		for j := 0; j < len(text); j++ {
			other := beginning(text[j:], h)
			if texts.Lesser(other, own) {
				ranks[i]++
			}
		}
	}
	return ranks
}

// beginning is what a suffix has of its first h symbols.
func beginning(suffix []int, h int) []int {
	if h < len(suffix) {
		return suffix[:h]
	}
	return suffix
}
