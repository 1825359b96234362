package suffixes_test

import (
	"math"
	"slices"
)

// smallTexts: every text of up to 7 symbols over 0, 1, 2.
func smallTexts() [][]int {
	all := [][]int{{}}
	for from := 0; len(all[from]) < 7; from++ {
		for symbol := range 3 {
			all = append(all, append(slices.Clone(all[from]), symbol))
		}
	}
	return all
}

// longTexts: texts of 95 and 96 symbols: all the same, rising, falling, repeating, and mixed with great symbols.
func longTexts() [][]int {
	var all [][]int
	for _, n := range []int{95, 96} {
		var up, down, repeat, mixed []int
		x := 7
		for i := range n {
			x = (x*75 + 74) % 65537
			up = append(up, i*1000)
			down = append(down, math.MaxInt-1-i)
			repeat = append(repeat, i%5%3)
			mixed = append(mixed, []int{0, 1, 1 << 20, math.MaxInt - 1}[x/7%4])
		}
		all = append(all, make([]int, n), up, down, repeat, mixed)
	}
	return all
}

func texts() [][]int {
	return append(smallTexts(), longTexts()...)
}

// orderOf sorts the suffixes by the words of the document alone.
func orderOf(text []int) []int {
	order := []int{}
	for i := range text {
		order = append(order, i)
	}
	slices.SortFunc(order, func(a, b int) int { return slices.Compare(text[a:], text[b:]) })
	return order
}

// oddNumbers: numbers at which something could go wrong.
func oddNumbers() []int {
	return []int{math.MinInt, math.MinInt + 1, -97, -2, -1, 0, 1, 2, 3, 95, 96, 97, 1 << 31, math.MaxInt - 1, math.MaxInt}
}

// oddLists: lists that are texts, orders, both or neither.
func oddLists() [][]int {
	all := [][]int{nil, {}, {0}, {0, 0}, {1, 0}, {0, 1}, {2, 0, 1}, {2, 1, 0}, {1, 0, 2, 0, 2, 0}, {5, 3, 1, 0, 4, 2}}
	for _, n := range oddNumbers() {
		all = append(all, []int{n}, []int{0, n}, []int{n, 0}, []int{1, n, 0}, []int{n, n})
	}
	for _, n := range []int{95, 96, 97, 98, 300} {
		high := slices.Repeat([]int{math.MaxInt}, n)
		low := make([]int, n)
		low[n-1] = -1
		all = append(all, make([]int, n), high, low, orderOf(make([]int, n)))
	}
	return all
}
