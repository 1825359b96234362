package suffixes_test

import (
	"math"
	"slices"
	"testing"

	"suffixes/api"
	"suffixes/suffixes"
)

// beforeOf looks for each place in the order, by the words of P11.
func beforeOf(text []int) []int {
	order := orderOf(text)
	before := []int{}
	for place := range text {
		at := slices.Index(order, place)
		if at == 0 {
			before = append(before, -1)
		} else {
			before = append(before, order[at-1])
		}
	}
	return before
}

// longestOf compares each suffix with the one before it, symbol by symbol.
func longestOf(text []int) []int {
	longest := make([]int, len(text))
	for place, ahead := range beforeOf(text) {
		if ahead < 0 {
			continue
		}
		a, b := text[ahead:], text[place:]
		for longest[place] < min(len(a), len(b)) && a[longest[place]] == b[longest[place]] {
			longest[place]++
		}
	}
	return longest
}

func TestBeforeP11(t *testing.T) {
	for _, text := range texts() {
		got, fault := suffixes.Before(text, math.MaxInt)
		if want := beforeOf(text); fault != api.OK || !slices.Equal(got, want) {
			t.Errorf("Before(%v) = %v, %d, want %v", text, got, fault, want)
		}
	}
}

func TestLongestP11(t *testing.T) {
	for _, text := range texts() {
		got, fault := suffixes.Longest(text, math.MaxInt)
		if want := longestOf(text); fault != api.OK || !slices.Equal(got, want) {
			t.Errorf("Longest(%v) = %v, %d, want %v", text, got, fault, want)
		}
	}
}

func TestBeforeAndLongestOfExamples(t *testing.T) {
	cases := []struct {
		name            string
		text            []int
		k               int
		before, longest []int
	}{
		{"no symbol", nil, 1, nil, nil},
		{"no symbol, greatest k", []int{}, math.MaxInt, nil, nil},
		{"one symbol", []int{4}, 5, []int{-1}, []int{0}},
		{"the greatest symbol", []int{math.MaxInt - 1}, math.MaxInt, []int{-1}, []int{0}},
		{"the greatest symbols", []int{math.MaxInt - 1, 0, math.MaxInt - 1}, math.MaxInt, []int{2, -1, 1}, []int{1, 0, 0}},
		{"two that are the same", []int{0, 0}, 1, []int{1, -1}, []int{1, 0}},
		{"four that are the same", []int{0, 0, 0, 0}, 1, []int{1, 2, 3, -1}, []int{3, 2, 1, 0}},
		{"rising", []int{0, 1, 2}, 3, []int{-1, 0, 1}, []int{0, 0, 0}},
		{"banana", []int{1, 0, 2, 0, 2, 0}, 3, []int{1, 3, 4, 5, 0, -1}, []int{0, 3, 2, 1, 0, 0}},
	}
	for _, c := range cases {
		if got, fault := suffixes.Before(c.text, c.k); fault != api.OK || !slices.Equal(got, c.before) {
			t.Errorf("%s: Before = %v, %d, want %v", c.name, got, fault, c.before)
		}
		if got, fault := suffixes.Longest(c.text, c.k); fault != api.OK || !slices.Equal(got, c.longest) {
			t.Errorf("%s: Longest = %v, %d, want %v", c.name, got, fault, c.longest)
		}
	}
}

func TestBeforeAndLongestErrorsP11(t *testing.T) {
	cases := []struct {
		name string
		text []int
		k    int
		want api.Errno
	}{
		{"k 0", nil, 0, api.ErrAlphabet},
		{"least k", []int{0}, math.MinInt, api.ErrAlphabet},
		{"k 0 goes before length and symbol", append(make([]int, 96), -1), 0, api.ErrAlphabet},
		{"97 symbols", make([]int, 97), 1, api.ErrLong},
		{"length goes before a symbol", append(make([]int, 96), -1), 1, api.ErrLong},
		{"a symbol that is k", []int{0, 2}, 2, api.ErrSymbol},
		{"a symbol below 0", []int{0, -1}, 2, api.ErrSymbol},
		{"the least number as a symbol", []int{math.MinInt}, math.MaxInt, api.ErrSymbol},
		{"the greatest number as a symbol", []int{math.MaxInt}, math.MaxInt, api.ErrSymbol},
		{"96 symbols, the last wrong", append(make([]int, 95), 1), 1, api.ErrSymbol},
	}
	for _, c := range cases {
		if got, fault := suffixes.Before(c.text, c.k); got != nil || fault != c.want {
			t.Errorf("%s: Before = %v, %d, want %d", c.name, got, fault, c.want)
		}
		if got, fault := suffixes.Longest(c.text, c.k); got != nil || fault != c.want {
			t.Errorf("%s: Longest = %v, %d, want %d", c.name, got, fault, c.want)
		}
	}
}

func TestCheckSharedIsTrueP11(t *testing.T) {
	for _, text := range texts() {
		order, shared := orderOf(text), sharedOf(text)
		if !suffixes.CheckShared(text, order, shared) {
			t.Errorf("CheckShared(%v, %v, %v) = false", text, order, shared)
		}
	}
	high := math.MaxInt
	if !suffixes.CheckShared([]int{high, 0, high}, []int{1, 2, 0}, []int{0, 0, 1}) {
		t.Error("CheckShared of the greatest numbers as symbols = false")
	}
	if !suffixes.CheckShared(nil, nil, nil) || !suffixes.CheckShared([]int{}, nil, []int{}) {
		t.Error("CheckShared of no symbol = false")
	}
}

func TestCheckSharedOfWrongNumbersP11(t *testing.T) {
	for _, text := range append(longTexts(), []int{0}, []int{0, 0}, []int{1, 0, 2, 0, 2, 0}, []int{0, 1, 0, 0, 1, 0, 1, 0}) {
		order, shared := orderOf(text), sharedOf(text)
		for at := range text {
			for _, n := range append(oddNumbers(), shared[at]-1, shared[at]+1, -shared[at]) {
				wrong := slices.Clone(shared)
				wrong[at] = n
				if got := suffixes.CheckShared(text, order, wrong); got != (n == shared[at]) {
					t.Errorf("CheckShared(%v, .., %v) = %v", text, wrong, got)
				}
				wrong = slices.Clone(order)
				wrong[at] = n
				if got := suffixes.CheckShared(text, wrong, shared); got != (n == order[at]) {
					t.Errorf("CheckShared(%v, %v, ..) = %v", text, wrong, got)
				}
			}
		}
	}
}

func TestCheckSharedOfWrongLengthsP11(t *testing.T) {
	for _, text := range append(longTexts(), []int{0}, []int{0, 0}, []int{1, 0, 2, 0, 2, 0}) {
		order, shared, last := orderOf(text), sharedOf(text), len(text)-1
		for _, lists := range [][2][]int{
			{order, shared[:last]}, {order, shared[1:]}, {order, append(slices.Clone(shared), 0)}, {order, nil},
			{order[:last], shared}, {order[1:], shared}, {append(slices.Clone(order), 0), shared}, {nil, shared},
			{order[:last], shared[:last]}, {append(slices.Clone(order), last+1), append(slices.Clone(shared), 0)}, {nil, nil},
		} {
			if suffixes.CheckShared(text, lists[0], lists[1]) {
				t.Errorf("CheckShared(%v, %v, %v) = true", text, lists[0], lists[1])
			}
		}
	}
	if suffixes.CheckShared(nil, nil, []int{0}) || suffixes.CheckShared(nil, []int{0}, nil) || suffixes.CheckShared(nil, []int{0}, []int{0}) {
		t.Error("CheckShared of no symbol and longer lists = true")
	}
}

func TestCheckSharedOfWhatIsNoTextOrOrderP11(t *testing.T) {
	long := make([]int, 97)
	cases := []struct {
		name                string
		text, order, shared []int
	}{
		{"97 symbols", long, orderOf(long), sharedOf(long)},
		{"a symbol below 0", []int{-1}, []int{0}, []int{0}},
		{"the least number as a symbol", []int{0, math.MinInt}, []int{1, 0}, []int{0, 0}},
		{"neighbours the other way round", []int{1, 0, 2, 0, 2, 0}, []int{5, 3, 1, 0, 2, 4}, []int{0, 1, 3, 0, 0, 2}},
		{"two with no symbol in common the other way round", []int{0, 1}, []int{1, 0}, []int{0, 0}},
		{"a place that stands twice", []int{0, 0}, []int{1, 1}, []int{0, 1}},
	}
	for _, c := range cases {
		if suffixes.CheckShared(c.text, c.order, c.shared) {
			t.Errorf("%s: CheckShared = true", c.name)
		}
	}
}
