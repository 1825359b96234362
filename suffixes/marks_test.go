package suffixes_test

import (
	"math"
	"slices"
	"testing"

	"suffixes/api"
	"suffixes/suffixes"
)

// fibonacci: so many symbols of 0 1 0 0 1 0 1 0 .., whose names are such a text again.
func fibonacci(length int) []int {
	last, text := []int{0}, []int{0, 1}
	for len(text) < length {
		last, text = text, append(slices.Clone(text), last...)
	}
	return text[:length]
}

// deepened: a text whose names are as good as the one handed in: each mark is a 0, and the symbol behind it tells one piece from the other.
func deepened(text []int) []int {
	longer := []int{1}
	for _, symbol := range text {
		longer = append(longer, 0, symbol+1)
	}
	return longer
}

// deepTexts: texts with the Work 1, 2, 3, 4 of the way Induced; no text of 96 symbols has more.
func deepTexts() [][]int {
	all := [][]int{{1, 0, 1, 0, 1, 0, 1}}
	for len(all) < 4 {
		all = append(all, deepened(all[len(all)-1]))
	}
	return all
}

// markedTexts: texts(), every text of 8 to 11 symbols over 0, 1, and texts with names that must be taken as a text again and again.
func markedTexts() [][]int {
	all := append(texts(), deepTexts()...)
	for length := 8; length <= 11; length++ {
		for bits := range 1 << length {
			var text []int
			for i := range length {
				text = append(text, bits>>i&1)
			}
			all = append(all, text)
		}
	}
	for length := 8; length <= 96; length++ {
		all = append(all, fibonacci(length), slices.Repeat([]int{1, 0, 2, 0}, 24)[:length])
	}
	return append(all, deepened(fibonacci(47)), append([]int{0}, deepened(deepened(fibonacci(23)))...))
}

// piecesOf writes for each mark its piece by the words of P12: for each place its symbol, then 0 for an L and 1 for what is none; -1 for the end.
func piecesOf(text []int, marks []int) [][]int {
	kinds := kindsOf(text)
	pieces := [][]int{}
	for i, mark := range marks {
		isLast := i == len(marks)-1
		piece := []int{}
		for place := mark; place < len(text) && (isLast || place <= marks[i+1]); place++ {
			if kinds[place] == 'L' {
				piece = append(piece, text[place], 0)
			} else {
				piece = append(piece, text[place], 1)
			}
		}
		if isLast {
			piece = append(piece, -1)
		}
		pieces = append(pieces, piece)
	}
	return pieces
}

// reduceOf tells the marks and the names by the words of P12.
func reduceOf(text []int) ([]int, []int) {
	marks, names := []int{}, []int{}
	for place, kind := range kindsOf(text) {
		if kind == 'M' {
			marks = append(marks, place)
		}
	}
	pieces := piecesOf(text, marks)
	different := slices.Clone(pieces)
	slices.SortFunc(different, slices.Compare)
	different = slices.CompactFunc(different, slices.Equal)
	for _, piece := range pieces {
		names = append(names, slices.IndexFunc(different, func(other []int) bool { return slices.Equal(other, piece) }))
	}
	return marks, names
}

// levelsOf counts by the words of P13.
func levelsOf(text []int) int {
	_, names := reduceOf(text)
	if len(different(names)) == len(names) {
		return 0
	}
	return 1 + levelsOf(names)
}

func TestReduceOfExamplesP12(t *testing.T) {
	const great = math.MaxInt - 1
	cases := []struct {
		name               string
		text, marks, names []int
	}{
		{"no symbol", nil, nil, nil},
		{"one symbol", []int{4}, nil, nil},
		{"the greatest symbol", []int{great}, nil, nil},
		{"all the same", []int{2, 2, 2}, nil, nil},
		{"falling", []int{2, 1, 0}, nil, nil},
		{"rising, with no L ahead", []int{0, 1, 2}, nil, nil},
		{"rising, then falling", []int{0, 1, 1, 0, 0}, nil, nil},
		{"one mark", []int{1, 0, 1}, []int{1}, []int{0}},
		{"one mark, the greatest symbols", []int{great, great - 1, great}, []int{1}, []int{0}},
		{"banana", []int{1, 0, 2, 0, 2, 0}, []int{1, 3}, []int{1, 0}},
		{"the end is lesser than the same symbol", []int{1, 0, 1, 0, 1, 0, 1}, []int{1, 3, 5}, []int{1, 1, 0}},
		{"the end is lesser than 0", []int{1, 0, 2, 0, 2}, []int{1, 3}, []int{1, 0}},
		{"a lesser symbol goes before the end", []int{2, 0, 1, 0, 2}, []int{1, 3}, []int{0, 1}},
		{"an L goes before what is none", []int{3, 0, 1, 0, 3, 0, 1, 3, 0, 1, 0, 3}, []int{1, 3, 5, 8, 10}, []int{0, 3, 1, 0, 2}},
		{"the piece that ends first is the greater one", []int{3, 1, 2, 1, 2, 1, 0, 1}, []int{1, 3, 6}, []int{2, 1, 0}},
		{"the same, with the greatest symbols", []int{great, great - 1, great, great - 1, great, great - 1, 0, great}, []int{1, 3, 6}, []int{2, 1, 0}},
		{"symbols whose doubles are too great", []int{great, 0, 1 << 62, 0, 1<<62 - 1, 0, great, 0, 1}, []int{1, 3, 5, 7}, []int{2, 1, 3, 0}},
		{"a mark at the last place but one", []int{1, 1, 0, 1}, []int{2}, []int{0}},
		{"a mark with the same symbol behind it", []int{1, 1, 0, 0, 1}, []int{2}, []int{0}},
		{"names stand for different pieces, not for marks", []int{1, 0, 1, 0, 1, 0, 2, 0, 2}, []int{1, 3, 5, 7}, []int{0, 0, 2, 1}},
	}
	for _, c := range cases {
		marks, names, fault := suffixes.Reduce(c.text, math.MaxInt)
		if fault != api.OK || !slices.Equal(marks, c.marks) || !slices.Equal(names, c.names) {
			t.Errorf("%s: Reduce(%v) = %v, %v, %d, want %v, %v", c.name, c.text, marks, names, fault, c.marks, c.names)
		}
	}
}

func TestReduceP12(t *testing.T) {
	for _, text := range markedTexts() {
		wantMarks, wantNames := reduceOf(text)
		marks, names, fault := suffixes.Reduce(text, math.MaxInt)
		if fault != api.OK || !slices.Equal(marks, wantMarks) || !slices.Equal(names, wantNames) {
			t.Errorf("Reduce(%v) = %v, %v, %d, want %v, %v", text, marks, names, fault, wantMarks, wantNames)
		}
	}
}

func TestNamesStandInTheOrderOfTheirSuffixesP12(t *testing.T) {
	for _, text := range markedTexts() {
		marks, names, _ := suffixes.Reduce(text, math.MaxInt)
		byName := []int{}
		for _, place := range orderOf(names) {
			byName = append(byName, marks[place])
		}
		bySuffix := slices.DeleteFunc(orderOf(text), func(place int) bool { return !slices.Contains(marks, place) })
		if !slices.Equal(byName, bySuffix) {
			t.Errorf("Reduce(%v) = %v, %v: by names %v, by suffixes %v", text, marks, names, byName, bySuffix)
		}
	}
}

func TestReduceErrorsP12(t *testing.T) {
	cases := []struct {
		name string
		text []int
		k    int
		want api.Errno
	}{
		{"no symbol, k 1", nil, 1, api.OK},
		{"no symbol, k 0", nil, 0, api.ErrAlphabet},
		{"least k", []int{0}, math.MinInt, api.ErrAlphabet},
		{"k 0 goes before all", append(make([]int, 96), -1), 0, api.ErrAlphabet},
		{"96 symbols", make([]int, 96), 1, api.OK},
		{"97 symbols", make([]int, 97), 1, api.ErrLong},
		{"97 symbols go before a wrong one", append(make([]int, 96), -1), 1, api.ErrLong},
		{"a symbol that is k", []int{1, 0, 2, 0, 2, 0}, 2, api.ErrSymbol},
		{"the symbol k-1", []int{1, 0, 2, 0, 2, 0}, 3, api.OK},
		{"a symbol below 0", []int{1, 0, 2, -1}, 3, api.ErrSymbol},
		{"the last of 96 wrong", append(make([]int, 95), 1), 1, api.ErrSymbol},
		{"the greatest number is no symbol", []int{math.MaxInt}, math.MaxInt, api.ErrSymbol},
	}
	for _, c := range cases {
		marks, names, fault := suffixes.Reduce(c.text, c.k)
		if fault != c.want || fault != api.OK && (marks != nil || names != nil) {
			t.Errorf("%s: Reduce = %v, %v, %d, want %d", c.name, marks, names, fault, c.want)
		}
	}
}

func TestOrderOfInducedP8(t *testing.T) {
	for _, text := range markedTexts() {
		got, fault := suffixes.Build(text, math.MaxInt, api.Induced, api.Phi, false)
		if fault != api.OK || got == nil || !slices.Equal(got.Order, orderOf(text)) {
			t.Errorf("Build(%v) = %v, %d, want Order %v", text, got, fault, orderOf(text))
		}
	}
}

func TestWorkOfInducedP13(t *testing.T) {
	for _, text := range markedTexts() {
		got, fault := suffixes.Build(text, math.MaxInt, api.Induced, api.Kasai, true)
		if want := levelsOf(text); fault != api.OK || got == nil || got.Work != want {
			t.Errorf("Build(%v) = %v, %d, want Work %d", text, got, fault, want)
		}
	}
}

func TestWorkOfInducedOfExamplesP13(t *testing.T) {
	type example struct {
		name string
		text []int
		want int
	}
	cases := []example{
		{"no symbol", nil, 0},
		{"one symbol", []int{math.MaxInt - 1}, 0},
		{"no mark", make([]int, 96), 0},
		{"one mark", []int{1, 0, 1}, 0},
		{"banana, with different names", []int{1, 0, 2, 0, 2, 0}, 0},
		{"different names, though pieces begin alike", []int{1, 0, 0, 1, 0, 1, 0, 0, 1, 1, 0, 1}, 0},
		{"names of which two are the same", []int{1, 0, 1, 0, 1, 0, 1}, 1},
		{"names of which two apart are the same", []int{3, 0, 1, 0, 3, 0, 1, 3, 0, 1, 0, 3}, 1},
		{"48 times the same two symbols", slices.Repeat([]int{1, 0}, 48), 1},
		{"names of names", []int{1, 0, 1, 0, 0, 1, 0, 1, 0, 0, 1, 0, 1, 0, 0, 1, 0, 1}, 2},
		{"60 of Fibonacci's text", fibonacci(60), 2},
		{"96 of Fibonacci's text", fibonacci(96), 3},
	}
	for i, text := range deepTexts() {
		cases = append(cases, example{"deep", text, i + 1})
	}
	for _, c := range cases {
		got, fault := suffixes.Build(c.text, math.MaxInt, api.Induced, api.Kasai, false)
		if fault != api.OK || got == nil || got.Work != c.want {
			t.Errorf("%s: Build(%v) = %v, %d, want Work %d", c.name, c.text, got, fault, c.want)
		}
	}
}
