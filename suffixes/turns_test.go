package suffixes_test

import (
	"math"
	"slices"
	"testing"

	"suffixes/api"
	"suffixes/suffixes"
)

// turnedTexts: markedTexts(), and longer texts with many places that are neither an L nor a turn.
func turnedTexts() [][]int {
	all := markedTexts()
	for length := 8; length <= 96; length++ {
		steps := slices.Repeat([]int{0, 0, 1, 1, 2, 3, 3, 1, 2, 0, 1, 3}, 8)[:length]
		mixed := []int{}
		x := length
		for range length {
			x = (x*75 + 74) % 65537
			mixed = append(mixed, x/7%(2+length%4))
		}
		all = append(all, steps, mixed)
	}
	return all
}

// turnsOf picks the turns out of the order by the words of P14.
func turnsOf(text []int) []int {
	kinds := kindsOf(text)
	turns := []int{}
	for _, place := range orderOf(text) {
		if kinds[place] != 'L' && place+1 < len(text) && kinds[place+1] == 'L' {
			turns = append(turns, place)
		}
	}
	return turns
}

// everySecond: the places from, from-2 .. down to the last one.
func everySecond(from int, last int) []int {
	places := []int{}
	for place := from; place >= last; place -= 2 {
		places = append(places, place)
	}
	return places
}

func TestTurnsOfExamplesP14P15(t *testing.T) {
	const great = math.MaxInt - 1
	var rising []int
	for i := range 96 {
		rising = append(rising, i)
	}
	cases := []struct {
		name        string
		text, turns []int
	}{
		{"no symbol", nil, nil},
		{"one symbol", []int{4}, nil},
		{"the greatest symbol", []int{great}, nil},
		{"two that are the same", []int{0, 0}, nil},
		{"96 that are the same", make([]int, 96), nil},
		{"falling", []int{2, 1, 0}, nil},
		{"a turn at the first place, which is no mark", []int{0, 1}, []int{0}},
		{"a turn at the first place, then falling", []int{0, 1, 1, 0, 0}, []int{0}},
		{"rising: the turn is the last place but one", []int{0, 1, 2}, []int{1}},
		{"96 rising", rising, []int{94}},
		{"95 the same, then a greater one", append(make([]int, 95), 1), []int{94}},
		{"a mark that is a turn too", []int{1, 0, 1}, []int{1}},
		{"a mark that is none", []int{2, 1, 1, 3, 3, 1}, []int{2}},
		{"one turn, the greatest symbols", []int{great, great - 1, great - 1, great, great}, []int{2}},
		{"banana", []int{1, 0, 2, 0, 2, 0}, []int{3, 1}},
		{"banana, with the greatest symbols", []int{great - 1, 0, great, 0, great, 0}, []int{3, 1}},
		{"in the order of places", []int{0, 1, 0, 2, 0, 3}, []int{0, 2, 4}},
		{"against the order of places", []int{0, 3, 0, 2, 0, 1}, []int{4, 2, 0}},
		{"one suffix ends first", []int{1, 0, 1, 0, 1, 0, 1}, []int{5, 3, 1}},
		{"the last turn's suffix is no beginning of another", []int{0, 1, 0, 1, 0, 2}, []int{0, 2, 4}},
		{"one ends first, two differ far behind", []int{0, 2, 1, 0, 2, 0, 0, 2, 1, 0, 2, 1}, []int{3, 9, 0, 6}},
		{"48 turns", slices.Repeat([]int{0, 1}, 48), everySecond(94, 0)},
		{"47 turns, and a last L", slices.Repeat([]int{1, 0}, 48), everySecond(93, 1)},
	}
	for _, c := range cases {
		turns, fault := suffixes.Turns(c.text, math.MaxInt)
		if fault != api.OK || !slices.Equal(turns, c.turns) {
			t.Errorf("P14: %s: Turns(%v) = %v, %d, want %v", c.name, c.text, turns, fault, c.turns)
		}
		built, fault := suffixes.Build(c.text, math.MaxInt, api.Turned, api.Kasai, false)
		if fault != api.OK || built == nil || built.Work != len(c.turns) {
			t.Errorf("P15: %s: Build(%v) = %v, %d, want Work %d", c.name, c.text, built, fault, len(c.turns))
		}
	}
}

func TestTurnsP14(t *testing.T) {
	for _, text := range turnedTexts() {
		want := turnsOf(text)
		if turns, fault := suffixes.Turns(text, math.MaxInt); fault != api.OK || !slices.Equal(turns, want) {
			t.Errorf("Turns(%v) = %v, %d, want %v", text, turns, fault, want)
		}
	}
}

func TestTurnsErrorsP14(t *testing.T) {
	cases := []struct {
		name string
		text []int
		k    int
		want api.Errno
	}{
		{"no symbol, k 1", nil, 1, api.OK},
		{"no symbol, k 0", nil, 0, api.ErrAlphabet},
		{"least k", []int{0}, math.MinInt, api.ErrAlphabet},
		{"k 0 goes before all", append(make([]int, 96), -1), 0, api.ErrAlphabet},
		{"96 symbols", slices.Repeat([]int{0, 1}, 48), 2, api.OK},
		{"97 symbols", append(slices.Repeat([]int{0, 1}, 48), 0), 2, api.ErrLong},
		{"97 symbols go before a wrong one", append(make([]int, 96), -1), 1, api.ErrLong},
		{"a symbol that is k", []int{1, 0, 2, 0, 2, 0}, 2, api.ErrSymbol},
		{"the symbol k-1", []int{1, 0, 2, 0, 2, 0}, 3, api.OK},
		{"a symbol below 0", []int{1, 0, 2, -1}, 3, api.ErrSymbol},
		{"the last of 96 wrong", append(make([]int, 95), 1), 1, api.ErrSymbol},
		{"the greatest number is no symbol", []int{0, math.MaxInt}, math.MaxInt, api.ErrSymbol},
	}
	for _, c := range cases {
		turns, fault := suffixes.Turns(c.text, c.k)
		if fault != c.want || fault != api.OK && turns != nil {
			t.Errorf("%s: Turns = %v, %d, want %d", c.name, turns, fault, c.want)
		}
	}
}

func TestBuildByTurnsP8P9P15(t *testing.T) {
	for _, text := range turnedTexts() {
		want := api.Result{Order: orderOf(text), Shared: sharedOf(text), Work: len(turnsOf(text))}
		got, fault := suffixes.Build(text, math.MaxInt, api.Turned, api.Phi, true)
		if fault != api.OK || !isResult(got, want) {
			t.Errorf("Build(%v) = %v, %d, want %v", text, got, fault, want)
		}
	}
}

func TestBuildByTurnsOfExamplesP15(t *testing.T) {
	const great = math.MaxInt - 1
	cases := []struct {
		name string
		text []int
		want api.Result
	}{
		{"no symbol", nil, api.Result{}},
		{"one symbol", []int{great}, api.Result{Order: []int{0}, Shared: []int{0}}},
		{"no turn", []int{0, 0, 0, 0}, api.Result{Order: []int{3, 2, 1, 0}, Shared: []int{0, 1, 2, 3}}},
		{"one turn", []int{great, 0, great}, api.Result{Order: []int{1, 2, 0}, Shared: []int{0, 0, 1}, Work: 1}},
		{"a turn and others that are no L", []int{0, 0, 0, 1}, api.Result{Order: []int{0, 1, 2, 3}, Shared: []int{0, 2, 1, 0}, Work: 1}},
		{"between two turns one that is none", []int{0, 1, 0, 1, 2, 0, 2}, api.Result{Order: []int{0, 2, 5, 1, 3, 6, 4}, Shared: []int{0, 2, 1, 0, 1, 0, 1}, Work: 3}},
		{"banana", []int{1, 0, 2, 0, 2, 0}, api.Result{Order: []int{5, 3, 1, 0, 4, 2}, Shared: []int{0, 1, 3, 0, 0, 2}, Work: 2}},
	}
	for _, c := range cases {
		got, fault := suffixes.Build(c.text, math.MaxInt, api.Turned, api.Phi, true)
		if fault != api.OK || !isResult(got, c.want) {
			t.Errorf("%s: Build = %v, %d, want %v", c.name, got, fault, c.want)
		}
	}
}
