package suffixes_test

import (
	"math"
	"slices"
	"testing"

	"suffixes/api"
	"suffixes/suffixes"
)

// faultOf says P3's errors in the document's sequence.
func faultOf(text []int, k int) api.Errno {
	wrong := func(symbol int) bool { return symbol < 0 || symbol >= k }
	switch {
	case k < 1:
		return api.ErrAlphabet
	case len(text) > 96:
		return api.ErrLong
	case slices.ContainsFunc(text, wrong):
		return api.ErrSymbol
	}
	return api.OK
}

func TestErrorsComeAloneP1(t *testing.T) {
	for _, text := range oddLists() {
		for _, k := range oddNumbers() {
			want := faultOf(text, k)
			if fault, place := suffixes.Scan(text, k); fault != want || fault != api.ErrSymbol && place != 0 {
				t.Errorf("Scan(%v, %d) = %d, %d, want %d", text, k, fault, place, want)
			}
			if dense, count, fault := suffixes.Dense(text, k); fault != want || fault != api.OK && (dense != nil || count != 0) {
				t.Errorf("Dense(%v, %d) = %v, %d, %d, want %d", text, k, dense, count, fault, want)
			}
			if starts, fault := suffixes.Buckets(text, k); fault != want || fault != api.OK && starts != nil {
				t.Errorf("Buckets(%v, %d) = %v, %d, want %d", text, k, starts, fault, want)
			}
			if kinds, fault := suffixes.Kinds(text, k); fault != want || fault != api.OK && kinds != "" {
				t.Errorf("Kinds(%v, %d) = %q, %d, want %d", text, k, kinds, fault, want)
			}
		}
	}
}

func TestCheckOrderTakesAllListsP1(t *testing.T) {
	for _, text := range oddLists() {
		isText := len(text) <= 96 && !slices.ContainsFunc(text, func(symbol int) bool { return symbol < 0 })
		for _, list := range oddLists() {
			want := isText && slices.Equal(list, orderOf(text))
			if got := suffixes.CheckOrder(text, list); got != want {
				t.Errorf("CheckOrder(%v, %v) = %v", text, list, got)
			}
		}
	}
}

// lend hands out a list with spare room behind it, and all of that as one list.
func lend(list []int) ([]int, []int) {
	whole := append(slices.Clone(list), -7, 3, -7, 3)
	return whole[:len(list)], whole
}

func TestWhatIsHandedInStaysP2(t *testing.T) {
	for _, list := range append(oddLists(), longTexts()...) {
		for _, k := range []int{0, 1, 3, math.MaxInt} {
			text, whole := lend(list)
			before := slices.Clone(whole)
			suffixes.Scan(text, k)
			suffixes.Dense(text, k)
			suffixes.Buckets(text, k)
			suffixes.Kinds(text, k)
			if !slices.Equal(whole, before) {
				t.Errorf("a call with the text %v and k %d left %v", list, k, whole)
			}
		}
	}
}

func TestCheckOrderLeavesItsListsP2(t *testing.T) {
	for _, list := range append(oddLists(), longTexts()...) {
		for _, places := range [][]int{orderOf(list), list, {1, 1}, {5}} {
			text, wholeText := lend(list)
			order, wholeOrder := lend(places)
			beforeText, beforeOrder := slices.Clone(wholeText), slices.Clone(wholeOrder)
			suffixes.CheckOrder(text, order)
			if !slices.Equal(wholeText, beforeText) || !slices.Equal(wholeOrder, beforeOrder) {
				t.Errorf("CheckOrder(%v, %v) left %v, %v", list, places, wholeText, wholeOrder)
			}
		}
	}
}

// spoil writes into a list and into its spare room.
func spoil(list []int) {
	list = list[:cap(list)]
	for i := range list {
		list[i] = -99
	}
}

func TestListsThatComeOutShareNothingP2(t *testing.T) {
	const k = math.MaxInt
	for _, list := range texts() {
		text, whole := lend(list)
		before := slices.Clone(whole)
		dense, count, _ := suffixes.Dense(text, k)
		starts, _ := suffixes.Buckets(text, k)
		kinds, _ := suffixes.Kinds(text, k)
		wantDense, wantStarts := slices.Clone(dense), slices.Clone(starts)
		otherDense, _, _ := suffixes.Dense(text, k)
		otherStarts, _ := suffixes.Buckets(text, k)
		spoil(otherDense)
		if !slices.Equal(dense, wantDense) || !slices.Equal(starts, wantStarts) || !slices.Equal(whole, before) {
			t.Fatalf("Dense(%v) shares its list", list)
		}
		spoil(otherStarts)
		if !slices.Equal(dense, wantDense) || !slices.Equal(starts, wantStarts) || !slices.Equal(whole, before) {
			t.Fatalf("Buckets(%v) shares its list", list)
		}
		spoil(dense)
		spoil(starts)
		dense, againCount, _ := suffixes.Dense(text, k)
		starts, _ = suffixes.Buckets(text, k)
		againKinds, _ := suffixes.Kinds(text, k)
		if !slices.Equal(dense, wantDense) || againCount != count || !slices.Equal(starts, wantStarts) || againKinds != kinds {
			t.Fatalf("the second answers for %v are others", list)
		}
	}
}

func TestNothingHandedInIsKeptP2(t *testing.T) {
	text := []int{1, 0, 2, 0, 2, 0}
	dense, _, _ := suffixes.Dense(text, 3)
	starts, _ := suffixes.Buckets(text, 3)
	kinds, _ := suffixes.Kinds(text, 3)
	for i := range text {
		text[i] = 1
	}
	if !slices.Equal(dense, []int{1, 0, 2, 0, 2, 0}) || !slices.Equal(starts, []int{0, 3, 4, 6}) || kinds != "LMLMLL" {
		t.Errorf("answers changed with the text: %v, %v, %q", dense, starts, kinds)
	}
	dense, count, _ := suffixes.Dense(text, 3)
	starts, _ = suffixes.Buckets(text, 3)
	kinds, _ = suffixes.Kinds(text, 3)
	if !slices.Equal(dense, make([]int, 6)) || count != 1 || !slices.Equal(starts, []int{0, 6}) || kinds != "LLLLLL" {
		t.Errorf("answers for the changed text: %v, %d, %v, %q", dense, count, starts, kinds)
	}
	if !suffixes.CheckOrder(text, []int{5, 4, 3, 2, 1, 0}) {
		t.Error("CheckOrder of the changed text = false")
	}
}
