package suffixes_test

import (
	"math"
	"slices"
	"testing"

	"suffixes/api"
	"suffixes/suffixes"
)

func TestScanP3(t *testing.T) {
	long := append(make([]int, 96), -1)
	late := append(make([]int, 95), 1)
	cases := []struct {
		name  string
		text  []int
		k     int
		fault api.Errno
		place int
	}{
		{"no symbol, k 1", nil, 1, api.OK, 0},
		{"no symbol, k 0", nil, 0, api.ErrAlphabet, 0},
		{"no symbol, least k", nil, math.MinInt, api.ErrAlphabet, 0},
		{"no symbol, greatest k", []int{}, math.MaxInt, api.OK, 0},
		{"k 0 goes before a wrong symbol", []int{7, 0, 9}, 0, api.ErrAlphabet, 0},
		{"k -1 goes before a wrong symbol", []int{0, -1}, -1, api.ErrAlphabet, 0},
		{"k 0 goes before length", long, 0, api.ErrAlphabet, 0},
		{"one symbol", []int{0}, 1, api.OK, 0},
		{"one symbol that is k", []int{1}, 1, api.ErrSymbol, 0},
		{"last symbol is k", []int{7, 0, 9}, 9, api.ErrSymbol, 2},
		{"last symbol is k-1", []int{7, 0, 9}, 10, api.OK, 0},
		{"the first of two wrong ones, high first", []int{0, 5, -1}, 5, api.ErrSymbol, 1},
		{"the first of two wrong ones, low first", []int{0, -1, 5}, 5, api.ErrSymbol, 1},
		{"symbol far above k", []int{0, 0, math.MaxInt}, 1, api.ErrSymbol, 2},
		{"least number as a symbol", []int{0, math.MinInt}, math.MaxInt, api.ErrSymbol, 1},
		{"greatest symbol of the greatest k", []int{math.MaxInt - 1, 0}, math.MaxInt, api.OK, 0},
		{"greatest k as a symbol", []int{0, math.MaxInt}, math.MaxInt, api.ErrSymbol, 1},
		{"96 symbols", make([]int, 96), 1, api.OK, 0},
		{"96 symbols, the last wrong", late, 1, api.ErrSymbol, 95},
		{"97 symbols", make([]int, 97), 1, api.ErrLong, 0},
		{"length goes before a wrong symbol", long, 1, api.ErrLong, 0},
		{"length goes before a wrong symbol at 3", []int{96: 0, 3: -1}, 1, api.ErrLong, 0},
	}
	for _, c := range cases {
		fault, place := suffixes.Scan(c.text, c.k)
		if fault != c.fault || place != c.place {
			t.Errorf("%s: Scan = %d, %d, want %d, %d", c.name, fault, place, c.fault, c.place)
		}
	}
}

// different: the different symbols of a text, from the least on.
func different(text []int) []int {
	symbols := slices.Clone(text)
	slices.Sort(symbols)
	return slices.Compact(symbols)
}

func TestDenseP4(t *testing.T) {
	dense, count, fault := suffixes.Dense([]int{7, 0, 9, 0, 9, 0}, 10)
	if !slices.Equal(dense, []int{1, 0, 2, 0, 2, 0}) || count != 3 || fault != api.OK {
		t.Errorf("Dense of the example = %v, %d, %d", dense, count, fault)
	}
	for _, text := range texts() {
		symbols := different(text)
		want := []int{}
		for _, symbol := range text {
			want = append(want, slices.Index(symbols, symbol))
		}
		dense, count, fault := suffixes.Dense(text, math.MaxInt)
		if !slices.Equal(dense, want) || count != len(symbols) || fault != api.OK {
			t.Errorf("Dense(%v) = %v, %d, %d, want %v, %d", text, dense, count, fault, want, len(symbols))
		}
	}
}

func TestBucketsP4(t *testing.T) {
	starts, fault := suffixes.Buckets([]int{7, 0, 9, 0, 9, 0}, 10)
	if !slices.Equal(starts, []int{0, 3, 4, 6}) || fault != api.OK {
		t.Errorf("Buckets of the example = %v, %d", starts, fault)
	}
	for _, text := range texts() {
		rising := slices.Clone(text)
		slices.Sort(rising)
		want := []int{}
		for _, symbol := range different(text) {
			want = append(want, slices.Index(rising, symbol))
		}
		want = append(want, len(text))
		starts, fault := suffixes.Buckets(text, math.MaxInt)
		if !slices.Equal(starts, want) || fault != api.OK {
			t.Errorf("Buckets(%v) = %v, %d, want %v", text, starts, fault, want)
		}
	}
}

// kindsOf compares whole suffixes, as P5 says it.
func kindsOf(text []int) string {
	kinds := ""
	for i := range text {
		switch {
		case slices.Compare(text[i:], text[i+1:]) > 0:
			kinds += "L"
		case i > 0 && kinds[i-1] == 'L':
			kinds += "M"
		default:
			kinds += "S"
		}
	}
	return kinds
}

func TestKindsP5(t *testing.T) {
	cases := []struct {
		text []int
		want string
	}{
		{nil, ""}, {[]int{0}, "L"}, {[]int{0, 0}, "LL"}, {[]int{0, 1}, "SL"},
		{[]int{1, 0, 2, 0, 2, 0}, "LMLMLL"}, {[]int{2, 1, 1, 3, 3, 1}, "LMSLLL"},
	}
	for _, c := range cases {
		kinds, fault := suffixes.Kinds(c.text, 4)
		if kinds != c.want || fault != api.OK {
			t.Errorf("Kinds(%v) = %q, %d, want %q", c.text, kinds, fault, c.want)
		}
	}
	for _, text := range texts() {
		kinds, fault := suffixes.Kinds(text, math.MaxInt)
		if want := kindsOf(text); kinds != want || fault != api.OK {
			t.Errorf("Kinds(%v) = %q, %d, want %q", text, kinds, fault, want)
		}
	}
}

// lists: every list of the given length with numbers from -1 to the length.
func lists(length int) [][]int {
	all := [][]int{{}}
	for range length {
		var longer [][]int
		for _, list := range all {
			for n := -1; n <= length; n++ {
				longer = append(longer, append(slices.Clone(list), n))
			}
		}
		all = longer
	}
	return all
}

func TestCheckOrderOfEveryListP6(t *testing.T) {
	for _, text := range smallTexts() {
		if len(text) > 4 {
			break
		}
		order := orderOf(text)
		for length := range 5 {
			for _, list := range lists(length) {
				if got := suffixes.CheckOrder(text, list); got != slices.Equal(list, order) {
					t.Errorf("CheckOrder(%v, %v) = %v", text, list, got)
				}
			}
		}
	}
}

func TestCheckOrderWithOnePlaceWrongP6(t *testing.T) {
	for _, text := range texts() {
		order := orderOf(text)
		if !suffixes.CheckOrder(text, order) {
			t.Errorf("CheckOrder(%v, %v) = false", text, order)
		}
		for i := range order {
			for _, place := range append(oddNumbers(), order[0], order[len(order)-1]) {
				list := slices.Clone(order)
				list[i] = place
				if got := suffixes.CheckOrder(text, list); got != (place == order[i]) {
					t.Errorf("CheckOrder(%v, %v) = %v", text, list, got)
				}
			}
		}
	}
}

func TestCheckOrderEdgesP6(t *testing.T) {
	zeros := make([]int, 97)
	ends := orderOf(zeros)
	cases := []struct {
		name  string
		text  []int
		order []int
		want  bool
	}{
		{"no symbol", nil, nil, true},
		{"no symbol, one place", nil, []int{0}, false},
		{"one symbol", []int{8}, []int{0}, true},
		{"one symbol, no place", []int{8}, nil, false},
		{"one symbol, the place 1", []int{8}, []int{1}, false},
		{"96 symbols", zeros[:96], ends[1:], true},
		{"96 symbols, a place too many", zeros[:96], ends, false},
		{"96 symbols, a place too few", zeros[:96], ends[2:], false},
		{"97 symbols", zeros, ends, false},
		{"97 symbols, 96 places", zeros, ends[1:], false},
		{"the greatest number as a symbol", []int{math.MaxInt, 0}, []int{1, 0}, true},
		{"a symbol below 0", []int{0, -1}, []int{1, 0}, false},
		{"one symbol, below 0", []int{-1}, []int{0}, false},
		{"the least number as a symbol", []int{math.MinInt, 0, 1}, []int{0, 1, 2}, false},
		{"two neighbours changed about", []int{1, 0, 2, 0, 2, 0}, []int{5, 3, 1, 0, 2, 4}, false},
		{"a place twice", []int{1, 0, 2, 0, 2, 0}, []int{5, 3, 1, 0, 4, 4}, false},
		{"the order of the example", []int{1, 0, 2, 0, 2, 0}, []int{5, 3, 1, 0, 4, 2}, true},
	}
	for _, c := range cases {
		if got := suffixes.CheckOrder(c.text, c.order); got != c.want {
			t.Errorf("%s: CheckOrder = %v", c.name, got)
		}
	}
}
