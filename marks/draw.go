package marks

import "suffixes/texts"

// frame is what can be told of the order before the suffixes are sorted.
type frame struct {
	kinds   string
	symbols []int // for each place the number of its symbol
	starts  []int // for each symbol where its suffixes begin in the order; at last the order's length
}

// free stands in an order where no place has been laid yet.
const free = -1

// drawnIn makes the order of a text out of the order of its marks.
// Each suffix is drawn in by the one that begins just behind it: an L by a lesser one, so these are asked from the least on; what is no L by a greater one, so these are asked from the greatest on.
func drawnIn(text []int, marks []int) []int {
	kinds := texts.Kinds(text)
	symbols := texts.Dense(text)
	starts := texts.Buckets(text)
	f := frame{kinds: kinds, symbols: symbols, starts: starts}
	falling := f.drawFalling(marks)
	return f.drawRising(falling)
}

// drawFalling lays each L at its place of the order, and nothing else.
func (f frame) drawFalling(marks []int) []int {
	known := f.layMarks(marks)
	falling := allFree(len(known))
	heads := copyOf(f.starts)
	for i := -1; i < len(known); i++ {
		// The empty suffix behind the text is the least of all, so it comes first.
		behind := len(known)
		if i >= 0 {
			behind = known[i]
		}
		place := behind - 1
		if place >= 0 && f.kinds[place] == 'L' {
			symbol := f.symbols[place]
			known[heads[symbol]] = place
			falling[heads[symbol]] = place
			heads[symbol]++
		}
	}
	return falling
}

// layMarks lays the marks, in their order, behind all others with the same symbol.
// An L is lesser than what is no L with the same symbol. That the marks may stand too far back does no harm: to draw in an L it matters only which of them comes first.
func (f frame) layMarks(marks []int) []int {
	order := allFree(len(f.symbols))
	ends := copyOf(f.starts[1:])
	for i := len(marks) - 1; i >= 0; i-- {
		symbol := f.symbols[marks[i]]
		ends[symbol]--
		order[ends[symbol]] = marks[i]
	}
	return order
}

// drawRising adds what is no L to an order that has each L at its place.
func (f frame) drawRising(falling []int) []int {
	order := copyOf(falling)
	ends := copyOf(f.starts[1:])
	for i := len(order) - 1; i >= 0; i-- {
		place := order[i] - 1
		if place >= 0 && f.kinds[place] != 'L' {
			symbol := f.symbols[place]
			ends[symbol]--
			order[ends[symbol]] = place
		}
	}
	return order
}

// allFree is an order of so many places, none of which has been laid.
func allFree(length int) []int {
	order := make([]int, length)
	for i := 0; i < length; i++ {
		order[i] = free
	}
	return order
}

// copyOf is a fresh list with the same numbers.
func copyOf(list []int) []int {
	fresh := make([]int, len(list))
	copy(fresh, list)
	return fresh
}
