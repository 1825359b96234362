// Package texts: what can be told of a text without sorting its suffixes.
package texts

import "suffixes/api"

// Fault tells what is wrong with a text over the alphabet 0 to k-1.
func Fault(text []int, k int) api.Errno {
	if k < 1 {
		return api.ErrAlphabet
	}
	if len(text) > api.MaxText {
		return api.ErrLong
	}
	if firstOutside(text, k) < len(text) {
		return api.ErrSymbol
	}
	return api.OK
}

// Scan is Fault, with the place of the first wrong symbol.
func Scan(text []int, k int) (api.Errno, int) {
	fault := Fault(text, k)
	if fault != api.ErrSymbol {
		return fault, 0
	}
	return fault, firstOutside(text, k)
}

// firstOutside is the place of a list's first number outside 0 to bound-1; the list's length, if there is none.
func firstOutside(list []int, bound int) int {
	for i := 0; i < len(list); i++ {
		if list[i] < 0 || list[i] >= bound {
			return i
		}
	}
	return len(list)
}
