package turns

import "suffixes/texts"

// frame is what can be told of the order before the suffixes are sorted.
type frame struct {
	kinds   string
	symbols []int // for each place the number of its symbol
	starts  []int // for each symbol where its suffixes begin in the order; at last the order's length
}

// free stands in an order where no place has been laid yet.
const free = -1

// drawnIn makes the order of a text out of the order of its turns.
// Each suffix but the turns' is drawn in by the one that begins just behind it: what is no L by a greater one that is no L too, so these come first, and are asked from the greatest on; an L by a lesser one of any kind, so then all are asked from the least on.
func drawnIn(text []int, turns []int) []int {
	kinds := texts.Kinds(text)
	symbols := texts.Dense(text)
	starts := texts.Buckets(text)
	f := frame{kinds: kinds, symbols: symbols, starts: starts}
	laid := f.layTurns(turns)
	rising := f.drawRising(laid)
	return f.drawFalling(rising)
}

// layTurns lays each turn at its place of the order, and nothing else.
// Of the suffixes that begin with the same two symbols as a turn the turns are the least: what stands behind the first symbol is an L there, and an L is lesser than what is no L with the same symbol.
func (f frame) layTurns(turns []int) []int {
	order := make([]int, len(f.symbols))
	for i := 0; i < len(order); i++ {
		order[i] = free
	}
	for i := 0; i < len(turns); i++ {
		start := f.countLesserPairs(turns[i])
		ahead := f.countSamePairs(turns[:i], turns[i])
		order[start+ahead] = turns[i]
	}
	return order
}

// countLesserPairs counts the suffixes whose first two symbols are lesser than those of one place.
func (f frame) countLesserPairs(place int) int {
	pair := f.pairAt(place)
	count := 0
	for i := 0; i < len(f.symbols); i++ {
		other := f.pairAt(i)
		if texts.Lesser(other, pair) {
			count++
		}
	}
	return count
}

// countSamePairs counts the places of a list with the same first two symbols as one place.
func (f frame) countSamePairs(places []int, place int) int {
	pair := f.pairAt(place)
	count := 0
	for i := 0; i < len(places); i++ {
		other := f.pairAt(places[i])
		if texts.Same(other, pair) {
			count++
		}
	}
	return count
}

// pairAt is the first two symbols of a suffix; of the last one, its only symbol.
func (f frame) pairAt(place int) []int {
	if place+2 > len(f.symbols) {
		return f.symbols[place:]
	}
	return f.symbols[place : place+2]
}

// drawRising adds all others that are no L to an order that has each turn at its place.
// With the same symbol they come from the greatest on, so each is laid at the last place that the turns and those before it have left free.
func (f frame) drawRising(laid []int) []int {
	order := append([]int{}, laid...)
	for i := len(order) - 1; i >= 0; i-- {
		place := order[i] - 1
		if place >= 0 && f.kinds[place] != 'L' {
			symbol := f.symbols[place]
			last := lastFree(order, f.starts[symbol+1])
			order[last] = place
		}
	}
	return order
}

// lastFree is the last place ahead of an end, which is no less than 1, where nothing has been laid.
func lastFree(order []int, end int) int {
	last := end - 1
	for last > 0 && order[last] != free {
		last--
	}
	return last
}

// drawFalling adds each L to an order that has all others at their places.
// With the same symbol they come from the least on, and they are lesser than what is no L.
func (f frame) drawFalling(rising []int) []int {
	order := append([]int{}, rising...)
	heads := append([]int{}, f.starts...)
	for i := -1; i < len(order); i++ {
		// The empty suffix behind the text is the least of all, so it comes first.
		behind := len(order)
		if i >= 0 {
			behind = order[i]
		}
		place := behind - 1
		if place >= 0 && f.kinds[place] == 'L' {
			symbol := f.symbols[place]
			order[heads[symbol]] = place
			heads[symbol]++
		}
	}
	return order
}
