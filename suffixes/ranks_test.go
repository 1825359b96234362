package suffixes_test

import (
	"math"
	"slices"
	"testing"

	"suffixes/api"
	"suffixes/suffixes"
)

// ranksOf counts lesser beginnings by the words of P7.
func ranksOf(text []int, h int) []int {
	first := func(place int) []int { return text[place:min(len(text), place+min(h, len(text)))] }
	ranks := make([]int, len(text))
	for i := range text {
		for j := range text {
			if slices.Compare(first(j), first(i)) < 0 {
				ranks[i]++
			}
		}
	}
	return ranks
}

func TestRanksOfTheExampleP7(t *testing.T) {
	text := []int{1, 0, 2, 0, 2, 0}
	cases := []struct {
		h    int
		want []int
	}{
		{0, []int{0, 0, 0, 0, 0, 0}}, {1, []int{3, 0, 4, 0, 4, 0}}, {2, []int{3, 1, 4, 1, 4, 0}},
		{3, []int{3, 1, 5, 1, 4, 0}}, {4, []int{3, 2, 5, 1, 4, 0}}, {math.MaxInt, []int{3, 2, 5, 1, 4, 0}},
	}
	for _, c := range cases {
		if ranks, fault := suffixes.Ranks(text, 3, c.h); !slices.Equal(ranks, c.want) || fault != api.OK {
			t.Errorf("Ranks(%v, 3, %d) = %v, %d, want %v", text, c.h, ranks, fault, c.want)
		}
	}
}

func TestRanksP7(t *testing.T) {
	for _, text := range texts() {
		for _, h := range []int{0, 1, 2, 3, 4, 5, 6, 7, 8, 31, 32, 94, 95, 96, 97, math.MaxInt - 1, math.MaxInt} {
			want := ranksOf(text, h)
			if ranks, fault := suffixes.Ranks(text, math.MaxInt, h); !slices.Equal(ranks, want) || fault != api.OK {
				t.Errorf("Ranks(%v, %d) = %v, %d, want %v", text, h, ranks, fault, want)
			}
		}
	}
}

func TestRanksErrorsP7(t *testing.T) {
	cases := []struct {
		name string
		text []int
		k, h int
		want api.Errno
	}{
		{"h -1", []int{0}, 1, -1, api.ErrOption},
		{"least h", []int{0}, 1, math.MinInt, api.ErrOption},
		{"h -1, no symbol", nil, 1, -1, api.ErrOption},
		{"h -1, 96 symbols", make([]int, 96), 1, -1, api.ErrOption},
		{"h 0, no symbol", nil, 1, 0, api.OK},
		{"greatest h, no symbol", nil, 1, math.MaxInt, api.OK},
		{"greatest h, 96 symbols", make([]int, 96), 1, math.MaxInt, api.OK},
		{"k 0 goes before h", nil, 0, -1, api.ErrAlphabet},
		{"k 0 goes before all", append(make([]int, 96), -1), 0, -1, api.ErrAlphabet},
		{"97 symbols go before h", make([]int, 97), 1, -1, api.ErrLong},
		{"97 symbols with a good h", make([]int, 97), 1, 1, api.ErrLong},
		{"a symbol goes before h", []int{1}, 1, -1, api.ErrSymbol},
		{"a symbol below 0 goes before h", []int{0, -1}, 1, math.MinInt, api.ErrSymbol},
		{"the greatest number is no symbol", []int{math.MaxInt}, math.MaxInt, 0, api.ErrSymbol},
		{"the greatest symbol", []int{math.MaxInt - 1}, math.MaxInt, 0, api.OK},
	}
	for _, c := range cases {
		ranks, fault := suffixes.Ranks(c.text, c.k, c.h)
		if fault != c.want || fault != api.OK && ranks != nil || fault == api.OK && len(ranks) != len(c.text) {
			t.Errorf("%s: Ranks = %v, %d, want %d", c.name, ranks, fault, c.want)
		}
	}
}
