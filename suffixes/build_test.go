package suffixes_test

import (
	"math"
	"slices"
	"testing"

	"suffixes/api"
	"suffixes/suffixes"
)

// sharedOf compares neighbours of the order by the words of P9.
func sharedOf(text []int) []int {
	order := orderOf(text)
	shared := make([]int, len(text))
	for i := 1; i < len(order); i++ {
		a, b := text[order[i-1]:], text[order[i]:]
		for shared[i] < min(len(a), len(b)) && a[shared[i]] == b[shared[i]] {
			shared[i]++
		}
	}
	return shared
}

// roundsOf tries 0, 1, 2 .. by the words of P10.
func roundsOf(text []int) int {
	rounds := 0
	for len(different(ranksOf(text, 1<<rounds))) < len(text) {
		rounds++
	}
	return rounds
}

// isResult compares two answers, number by number.
func isResult(got *api.Result, want api.Result) bool {
	return got != nil && slices.Equal(got.Order, want.Order) && slices.Equal(got.Shared, want.Shared) && got.Work == want.Work
}

func TestBuildSortsInEveryWayP8P9(t *testing.T) {
	for _, text := range texts() {
		order, shared := orderOf(text), sharedOf(text)
		for _, way := range []int{api.Doubling, api.Induced, api.Turned} {
			for _, by := range []int{api.Kasai, api.Phi} {
				got, fault := suffixes.Build(text, math.MaxInt, way, by, false)
				if fault != api.OK || got == nil {
					t.Fatalf("Build(%v, way %d, by %d) = %v, %d", text, way, by, got, fault)
				}
				if !slices.Equal(got.Order, order) {
					t.Errorf("P8: Build(%v, way %d, by %d): Order %v, want %v", text, way, by, got.Order, order)
				}
				if !slices.Equal(got.Shared, shared) {
					t.Errorf("P9: Build(%v, way %d, by %d): Shared %v, want %v", text, way, by, got.Shared, shared)
				}
			}
		}
	}
}

func TestNothingHangsOnByOrCheckP8(t *testing.T) {
	for _, text := range texts() {
		for _, way := range []int{api.Doubling, api.Induced, api.Turned} {
			first, fault := suffixes.Build(text, math.MaxInt, way, api.Kasai, false)
			if fault != api.OK || first == nil {
				t.Fatalf("Build(%v, way %d) = %v, %d", text, way, first, fault)
			}
			for _, by := range []int{api.Kasai, api.Phi} {
				for _, check := range []bool{false, true} {
					got, fault := suffixes.Build(text, math.MaxInt, way, by, check)
					if fault != api.OK || !isResult(got, *first) {
						t.Errorf("Build(%v, way %d, by %d, %v) = %v, %d, want %v", text, way, by, check, got, fault, *first)
					}
				}
			}
		}
	}
}

func TestWorkOfDoublingP10(t *testing.T) {
	for _, text := range texts() {
		got, fault := suffixes.Build(text, math.MaxInt, api.Doubling, api.Kasai, false)
		if want := roundsOf(text); fault != api.OK || got == nil || got.Work != want {
			t.Errorf("Build(%v) = %v, %d, want Work %d", text, got, fault, want)
		}
	}
}

func TestBuildByDoublingOfExamples(t *testing.T) {
	cases := []struct {
		name string
		text []int
		want api.Result
	}{
		{"no symbol", nil, api.Result{}},
		{"one symbol", []int{4}, api.Result{Order: []int{0}, Shared: []int{0}}},
		{"the greatest symbol", []int{math.MaxInt - 1}, api.Result{Order: []int{0}, Shared: []int{0}}},
		{"the greatest symbols", []int{math.MaxInt - 1, 0, math.MaxInt - 1}, api.Result{Order: []int{1, 2, 0}, Shared: []int{0, 0, 1}, Work: 1}},
		{"different symbols", []int{3, 1, 2}, api.Result{Order: []int{1, 2, 0}, Shared: []int{0, 0, 0}}},
		{"two that are the same", []int{0, 0}, api.Result{Order: []int{1, 0}, Shared: []int{0, 1}, Work: 1}},
		{"four that are the same", []int{0, 0, 0, 0}, api.Result{Order: []int{3, 2, 1, 0}, Shared: []int{0, 1, 2, 3}, Work: 2}},
		{"banana", []int{1, 0, 2, 0, 2, 0}, api.Result{Order: []int{5, 3, 1, 0, 4, 2}, Shared: []int{0, 1, 3, 0, 0, 2}, Work: 2}},
	}
	for _, c := range cases {
		got, fault := suffixes.Build(c.text, math.MaxInt, api.Doubling, api.Phi, true)
		if fault != api.OK || !isResult(got, c.want) {
			t.Errorf("%s: Build = %v, %d, want %v", c.name, got, fault, c.want)
		}
	}
}

func TestWorkOfTheSameSymbolAgainAndAgainP10(t *testing.T) {
	for _, c := range [][2]int{{1, 0}, {2, 1}, {3, 2}, {4, 2}, {5, 3}, {8, 3}, {9, 4}, {64, 6}, {65, 7}, {95, 7}, {96, 7}} {
		got, fault := suffixes.Build(make([]int, c[0]), 1, api.Doubling, api.Kasai, false)
		if fault != api.OK || got == nil || got.Work != c[1] {
			t.Errorf("Build(%d symbols) = %v, %d, want Work %d", c[0], got, fault, c[1])
		}
	}
}

func TestBuildErrorsP8(t *testing.T) {
	cases := []struct {
		name       string
		text       []int
		k, way, by int
		want       api.Errno
	}{
		{"way one below", []int{0}, 1, -1, api.Kasai, api.ErrOption},
		{"way one above", []int{0}, 1, 3, api.Kasai, api.ErrOption},
		{"by one below", []int{0}, 1, api.Doubling, -1, api.ErrOption},
		{"by one above", []int{0}, 1, api.Doubling, 2, api.ErrOption},
		{"by one above, Induced", []int{0}, 1, api.Induced, 2, api.ErrOption},
		{"by one above, Turned", []int{0}, 1, api.Turned, 2, api.ErrOption},
		{"least way", nil, 1, math.MinInt, api.Phi, api.ErrOption},
		{"greatest way", nil, 1, math.MaxInt, api.Phi, api.ErrOption},
		{"least by", nil, 1, api.Doubling, math.MinInt, api.ErrOption},
		{"greatest by", nil, 1, api.Doubling, math.MaxInt, api.ErrOption},
		{"way and by wrong, 96 symbols", make([]int, 96), 1, 3, 2, api.ErrOption},
		{"k 0 goes before way", nil, 0, 3, api.Kasai, api.ErrAlphabet},
		{"k 0 goes before all", append(make([]int, 96), -1), 0, -1, 2, api.ErrAlphabet},
		{"97 symbols go before by", make([]int, 97), 1, api.Doubling, 2, api.ErrLong},
		{"97 symbols with good options", make([]int, 97), 1, api.Doubling, api.Kasai, api.ErrLong},
		{"a symbol goes before way", []int{1}, 1, -1, api.Kasai, api.ErrSymbol},
		{"a symbol below 0 goes before by", []int{0, -1}, 1, api.Doubling, -1, api.ErrSymbol},
		{"the greatest number is no symbol", []int{math.MaxInt}, math.MaxInt, api.Doubling, api.Kasai, api.ErrSymbol},
	}
	for _, c := range cases {
		for _, check := range []bool{false, true} {
			if got, fault := suffixes.Build(c.text, c.k, c.way, c.by, check); got != nil || fault != c.want {
				t.Errorf("%s: Build = %v, %d, want %d", c.name, got, fault, c.want)
			}
		}
	}
}
