package texts

// Dense puts for each symbol its number among the different symbols of the text.
// The text has no symbol below 0.
func Dense(text []int) []int {
	symbols := Alphabet(text)
	dense := make([]int, len(text))
	for i := 0; i < len(text); i++ {
		dense[i] = countLesser(symbols, text[i])
	}
	return dense
}

// Buckets tells for each different symbol, from the least on, how many of the text's symbols are lesser; at last the text's length.
// The text has no symbol below 0.
func Buckets(text []int) []int {
	symbols := Alphabet(text)
	starts := make([]int, len(symbols)+1)
	for i := 0; i < len(symbols); i++ {
		starts[i] = countLesser(text, symbols[i])
	}
	starts[len(symbols)] = len(text)
	return starts
}

// Alphabet lists the different symbols of a text, from the least on.
// It goes from symbol to symbol, since symbols are too great to count them in a list by number.
// The text has no symbol below 0.
func Alphabet(text []int) []int {
	symbols := make([]int, 0, len(text))
	symbol := leastAbove(text, -1)
	for symbol >= 0 {
		symbols = append(symbols, symbol)
		symbol = leastAbove(text, symbol)
	}
	return symbols
}

// leastAbove is the least symbol above a floor of -1 or more; -1, if there is none.
func leastAbove(text []int, floor int) int {
	least := -1
	for i := 0; i < len(text); i++ {
		if text[i] > floor && (least < 0 || text[i] < least) {
			least = text[i]
		}
	}
	return least
}

// countLesser counts the numbers of a list that are lesser than a symbol.
func countLesser(list []int, symbol int) int {
	count := 0
	for i := 0; i < len(list); i++ {
		if list[i] < symbol {
			count++
		}
	}
	return count
}

// AllDifferent tells whether no number of a list stands there twice.
func AllDifferent(list []int) bool {
	for i := 0; i < len(list); i++ {
		for j := 0; j < i; j++ {
			if list[j] == list[i] {
				return false
			}
		}
	}
	return true
}
