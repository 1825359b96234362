// Package suffixes: the suffixes of a text in order, and what neighbours share: see DOC.md.
package suffixes

import (
	"suffixes/api"
	"suffixes/marks"
	"suffixes/neighbours"
	"suffixes/ranks"
	"suffixes/texts"
	"suffixes/turns"
)

// Scan tells whether a text is one over the alphabet 0 to k-1 (P3).
func Scan(text []int, k int) (api.Errno, int) {
	return texts.Scan(text, k)
}

// Dense numbers the symbols of a text anew (P4).
func Dense(text []int, k int) ([]int, int, api.Errno) {
	fault := texts.Fault(text, k)
	if fault != api.OK {
		return nil, 0, fault
	}
	dense := texts.Dense(text)
	symbols := texts.Alphabet(text)
	return dense, len(symbols), api.OK
}

// Buckets tells where the suffixes of each symbol begin (P4).
func Buckets(text []int, k int) ([]int, api.Errno) {
	fault := texts.Fault(text, k)
	if fault != api.OK {
		return nil, fault
	}
	return texts.Buckets(text), api.OK
}

// Kinds tells of each suffix whether it is greater than the next one (P5).
func Kinds(text []int, k int) (string, api.Errno) {
	fault := texts.Fault(text, k)
	if fault != api.OK {
		return "", fault
	}
	return texts.Kinds(text), api.OK
}

// CheckOrder tells whether a list is the suffixes' order (P6).
func CheckOrder(text []int, order []int) bool {
	return texts.IsOrder(text, order)
}

// Ranks ranks the suffixes by their first h symbols (P7).
func Ranks(text []int, k int, h int) ([]int, api.Errno) {
	fault := texts.Fault(text, k)
	if fault != api.OK {
		return nil, fault
	}
	if h < 0 {
		return nil, api.ErrOption
	}
	return ranks.ByFirst(text, h), api.OK
}

// Build sorts the suffixes (P8 to P10, P13, P15).
// Nothing reads check, since nothing of the answer may hang on it.
func Build(text []int, k int, way int, by int, check bool) (*api.Result, api.Errno) {
	fault := texts.Fault(text, k)
	if fault != api.OK {
		return nil, fault
	}
	if way != api.Doubling && way != api.Induced && way != api.Turned {
		return nil, api.ErrOption
	}
	if by != api.Kasai && by != api.Phi {
		return nil, api.ErrOption
	}
	order, work := sortBy(text, way)
	shared := sharedBy(text, order, by)
	return &api.Result{Order: order, Shared: shared, Work: work}, api.OK
}

// sortBy finds the order in one of the ways, and tells how much work it was.
func sortBy(text []int, way int) ([]int, int) {
	if way == api.Induced {
		sorted := marks.Sort(text)
		return sorted.Order, sorted.Levels
	}
	if way == api.Turned {
		sorted := turns.Sort(text)
		return sorted.Order, sorted.Turns
	}
	sorted := ranks.Sort(text)
	return sorted.Order, sorted.Rounds
}

// sharedBy tells what neighbours of the order share, found in one of the two ways.
func sharedBy(text []int, order []int, by int) []int {
	if by == api.Phi {
		return neighbours.Phi(text, order)
	}
	return neighbours.Kasai(text, order)
}

// Before tells of each suffix which one stands ahead of it (P11).
func Before(text []int, k int) ([]int, api.Errno) {
	fault := texts.Fault(text, k)
	if fault != api.OK {
		return nil, fault
	}
	sorted := ranks.Sort(text)
	return neighbours.Before(sorted.Order), api.OK
}

// Longest tells of each suffix what it shares with the one ahead of it (P11).
func Longest(text []int, k int) ([]int, api.Errno) {
	fault := texts.Fault(text, k)
	if fault != api.OK {
		return nil, fault
	}
	sorted := ranks.Sort(text)
	before := neighbours.Before(sorted.Order)
	return neighbours.Longest(text, before), api.OK
}

// CheckShared tells whether lists are the order and what neighbours share (P11).
func CheckShared(text []int, order []int, shared []int) bool {
	if !texts.IsOrder(text, order) {
		return false
	}
	return neighbours.IsShared(text, order, shared)
}

// Reduce tells the marks of a text and their names (P12).
func Reduce(text []int, k int) ([]int, []int, api.Errno) {
	fault := texts.Fault(text, k)
	if fault != api.OK {
		return nil, nil, fault
	}
	places, names := marks.Reduce(text)
	return places, names, api.OK
}

// Turns tells the turns of a text, in the order of their suffixes (P14).
func Turns(text []int, k int) ([]int, api.Errno) {
	fault := texts.Fault(text, k)
	if fault != api.OK {
		return nil, fault
	}
	return turns.Rising(text), api.OK
}
