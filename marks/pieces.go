// Package marks: the marks of a text, the names of their pieces, and the order of the suffixes by them.
package marks

import "suffixes/texts"

// Reduce lists the marks of a text from the left on, and for each of them its name, as P12 says.
// The text has no symbol below 0.
func Reduce(text []int) ([]int, []int) {
	kinds := texts.Kinds(text)
	marks := marksOf(kinds)
	weights := weightsOf(text, kinds)
	pieces := piecesOf(weights, marks)
	different := differentOf(pieces)
	names := make([]int, len(pieces))
	for i := 0; i < len(pieces); i++ {
		names[i] = countLesser(different, pieces[i])
	}
	return marks, names
}

// marksOf lists the places of the marks.
func marksOf(kinds string) []int {
	marks := make([]int, 0, len(kinds))
	for i := 0; i < len(kinds); i++ {
		if kinds[i] == 'M' {
			marks = append(marks, i)
		}
	}
	return marks
}

// weightsOf puts a number for each place and at last one for the end, such that pieces compare as lists of these.
// The symbols are numbered anew first: twice a symbol of the text may be greater than a number can be.
func weightsOf(text []int, kinds string) []int {
	weights := texts.Dense(text)
	for i := 0; i < len(weights); i++ {
		weights[i] = 2*weights[i] + 1
		if kinds[i] != 'L' {
			weights[i]++
		}
	}
	return append(weights, 0)
}

// piecesOf cuts the piece of each mark out of the weights.
func piecesOf(weights []int, marks []int) [][]int {
	pieces := make([][]int, len(marks))
	end := len(weights)
	for i := len(marks) - 1; i >= 0; i-- {
		pieces[i] = weights[marks[i]:end]
		// The piece ahead has this mark too.
		end = marks[i] + 1
	}
	return pieces
}

// differentOf lists each piece once.
func differentOf(pieces [][]int) [][]int {
	different := make([][]int, 0, len(pieces))
	for i := 0; i < len(pieces); i++ {
		if !isAmong(different, pieces[i]) {
			different = append(different, pieces[i])
		}
	}
	return different
}

// isAmong tells whether a piece is one of several.
func isAmong(pieces [][]int, piece []int) bool {
	for i := 0; i < len(pieces); i++ {
		if texts.Same(pieces[i], piece) {
			return true
		}
	}
	return false
}

// countLesser counts the pieces that are lesser than one.
func countLesser(pieces [][]int, piece []int) int {
	count := 0
	for i := 0; i < len(pieces); i++ {
		if texts.Lesser(pieces[i], piece) {
			count++
		}
	}
	return count
}
