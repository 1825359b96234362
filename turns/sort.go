// Package turns: the turns of a text, and the order of the suffixes by them.
package turns

import "suffixes/texts"

// Sorted is the order of a text, and how many turns it was made of.
type Sorted struct {
	Order []int
	Turns int
}

// Sort sorts the turns' suffixes, and draws in all others out of the turns' order.
// The text has no symbol below 0.
func Sort(text []int) Sorted {
	turns := Rising(text)
	return Sorted{Order: drawnIn(text, turns), Turns: len(turns)}
}

// Rising lists the turns in the order of their suffixes, as P14 says.
func Rising(text []int) []int {
	kinds := texts.Kinds(text)
	turns := turnsOf(kinds)
	rising := make([]int, len(turns))
	for i := 0; i < len(turns); i++ {
		// No two suffixes are the same, so no two turns have as many lesser ones.
		rank := countLesser(text, turns, turns[i])
		rising[rank] = turns[i]
	}
	return rising
}

// turnsOf lists the places of the turns.
func turnsOf(kinds string) []int {
	turns := make([]int, 0, len(kinds))
	for i := 0; i+1 < len(kinds); i++ {
		if kinds[i] != 'L' && kinds[i+1] == 'L' {
			turns = append(turns, i)
		}
	}
	return turns
}

// countLesser counts the places of a list whose suffixes are lesser than that of one place.
func countLesser(text []int, places []int, place int) int {
	count := 0
	for i := 0; i < len(places); i++ {
		if texts.Lesser(text[places[i]:], text[place:]) {
			count++
		}
	}
	return count
}
