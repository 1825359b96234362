package texts

// Kinds has for each place a byte: L, M or S, as P5 says.
func Kinds(text []int) string {
	kinds := make([]byte, len(text))
	// The last suffix is greater than the empty one behind it.
	falls := true
	for i := len(text) - 1; i >= 0; i-- {
		// Where two symbols are the same, the suffixes behind them decide, and falls tells of those already.
		if i+1 < len(text) && text[i] != text[i+1] {
			falls = text[i] > text[i+1]
		}
		if falls {
			kinds[i] = 'L'
		} else {
			kinds[i] = 'S'
		}
	}
	for i := 1; i < len(kinds); i++ {
		if kinds[i] == 'S' && kinds[i-1] == 'L' {
			kinds[i] = 'M'
		}
	}
	return string(kinds)
}
