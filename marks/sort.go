package marks

import "suffixes/texts"

// Sorted is the order of a text, and how often names were taken as a text to find it.
type Sorted struct {
	Order  []int
	Levels int
}

// Sort sorts the marks' suffixes by their names, and draws in all others out of the marks' order.
// The text has no symbol below 0.
func Sort(text []int) Sorted {
	marks, names := Reduce(text)
	// The suffixes of the names stand in the same order as those of their marks.
	byName := sortNames(names)
	rising := make([]int, len(marks))
	for i := 0; i < len(marks); i++ {
		rising[i] = marks[byName.Order[i]]
	}
	return Sorted{Order: drawnIn(text, rising), Levels: byName.Levels}
}

// sortNames sorts the suffixes of a list of names.
// It ends, since a mark has an L of its own ahead of it: there are at most half as many names as the text has symbols.
func sortNames(names []int) Sorted {
	if texts.AllDifferent(names) {
		return Sorted{Order: placesByName(names), Levels: 0}
	}
	sorted := Sort(names)
	return Sorted{Order: sorted.Order, Levels: sorted.Levels + 1}
}

// placesByName lists the places by their names, which are all different and below the list's length.
func placesByName(names []int) []int {
	order := make([]int, len(names))
	for i := 0; i < len(names); i++ {
		order[names[i]] = i
	}
	return order
}
