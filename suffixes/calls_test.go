package suffixes_test

import (
	"math"
	"slices"
	"testing"

	"suffixes/api"
	"suffixes/suffixes"
)

// faultOf says P3's errors in the document's sequence.
func faultOf(text []int, k int) api.Errno {
	wrong := func(symbol int) bool { return symbol < 0 || symbol >= k }
	switch {
	case k < 1:
		return api.ErrAlphabet
	case len(text) > 96:
		return api.ErrLong
	case slices.ContainsFunc(text, wrong):
		return api.ErrSymbol
	}
	return api.OK
}

func TestErrorsComeAloneP1(t *testing.T) {
	for _, text := range oddLists() {
		for _, k := range oddNumbers() {
			want := faultOf(text, k)
			if fault, place := suffixes.Scan(text, k); fault != want || fault != api.ErrSymbol && place != 0 {
				t.Errorf("Scan(%v, %d) = %d, %d, want %d", text, k, fault, place, want)
			}
			if dense, count, fault := suffixes.Dense(text, k); fault != want || fault != api.OK && (dense != nil || count != 0) {
				t.Errorf("Dense(%v, %d) = %v, %d, %d, want %d", text, k, dense, count, fault, want)
			}
			if starts, fault := suffixes.Buckets(text, k); fault != want || fault != api.OK && starts != nil {
				t.Errorf("Buckets(%v, %d) = %v, %d, want %d", text, k, starts, fault, want)
			}
			if kinds, fault := suffixes.Kinds(text, k); fault != want || fault != api.OK && kinds != "" {
				t.Errorf("Kinds(%v, %d) = %q, %d, want %d", text, k, kinds, fault, want)
			}
			if before, fault := suffixes.Before(text, k); fault != want || fault != api.OK && before != nil {
				t.Errorf("Before(%v, %d) = %v, %d, want %d", text, k, before, fault, want)
			}
			if longest, fault := suffixes.Longest(text, k); fault != want || fault != api.OK && longest != nil {
				t.Errorf("Longest(%v, %d) = %v, %d, want %d", text, k, longest, fault, want)
			}
			if marks, names, fault := suffixes.Reduce(text, k); fault != want || fault != api.OK && (marks != nil || names != nil) {
				t.Errorf("Reduce(%v, %d) = %v, %v, %d, want %d", text, k, marks, names, fault, want)
			}
			if turns, fault := suffixes.Turns(text, k); fault != want || fault != api.OK && turns != nil {
				t.Errorf("Turns(%v, %d) = %v, %d, want %d", text, k, turns, fault, want)
			}
		}
	}
}

// withOption is the answer to a text with that fault, if the option is there or not.
func withOption(fault api.Errno, there bool) api.Errno {
	if fault == api.OK && !there {
		return api.ErrOption
	}
	return fault
}

func TestOptionsComeAfterTextsP1(t *testing.T) {
	for _, text := range oddLists() {
		for _, k := range oddNumbers() {
			textFault := faultOf(text, k)
			for _, option := range oddNumbers() {
				want := withOption(textFault, option >= 0)
				if ranks, fault := suffixes.Ranks(text, k, option); fault != want || fault != api.OK && ranks != nil {
					t.Errorf("Ranks(%v, %d, %d) = %v, %d, want %d", text, k, option, ranks, fault, want)
				}
				want = withOption(textFault, option >= 0 && option <= 2)
				if built, fault := suffixes.Build(text, k, option, 0, true); fault != want || (fault == api.OK) != (built != nil) {
					t.Errorf("Build(%v, %d, way %d) = %v, %d, want %d", text, k, option, built, fault, want)
				}
				want = withOption(textFault, option == 0 || option == 1)
				for way := range 3 {
					if built, fault := suffixes.Build(text, k, way, option, true); fault != want || (fault == api.OK) != (built != nil) {
						t.Errorf("Build(%v, %d, way %d, by %d) = %v, %d, want %d", text, k, way, option, built, fault, want)
					}
				}
			}
		}
	}
}

func TestCheckOrderTakesAllListsP1(t *testing.T) {
	for _, text := range oddLists() {
		isText := len(text) <= 96 && !slices.ContainsFunc(text, func(symbol int) bool { return symbol < 0 })
		for _, list := range oddLists() {
			want := isText && slices.Equal(list, orderOf(text))
			if got := suffixes.CheckOrder(text, list); got != want {
				t.Errorf("CheckOrder(%v, %v) = %v", text, list, got)
			}
		}
	}
}

func TestCheckSharedTakesAllListsP1(t *testing.T) {
	for _, text := range oddLists() {
		isText := len(text) <= 96 && !slices.ContainsFunc(text, func(symbol int) bool { return symbol < 0 })
		order, shared := orderOf(text), sharedOf(text)
		for _, places := range append(oddLists(), order) {
			isOrder := isText && slices.Equal(places, order)
			for _, list := range append(oddLists(), shared) {
				want := isOrder && slices.Equal(list, shared)
				if got := suffixes.CheckShared(text, places, list); got != want {
					t.Errorf("CheckShared(%v, %v, %v) = %v", text, places, list, got)
				}
			}
		}
	}
}

// lend hands out a list with spare room behind it, and all of that as one list.
func lend(list []int) ([]int, []int) {
	whole := append(slices.Clone(list), -7, 3, -7, 3)
	return whole[:len(list)], whole
}

func TestWhatIsHandedInStaysP2(t *testing.T) {
	for _, list := range slices.Concat(oddLists(), longTexts(), deepTexts()) {
		for _, k := range []int{0, 1, 3, math.MaxInt} {
			text, whole := lend(list)
			before := slices.Clone(whole)
			suffixes.Scan(text, k)
			suffixes.Dense(text, k)
			suffixes.Buckets(text, k)
			suffixes.Kinds(text, k)
			suffixes.Before(text, k)
			suffixes.Longest(text, k)
			suffixes.Reduce(text, k)
			suffixes.Turns(text, k)
			if !slices.Equal(whole, before) {
				t.Errorf("a call with the text %v and k %d left %v", list, k, whole)
			}
		}
	}
}

func TestRanksAndBuildLeaveTheTextP2(t *testing.T) {
	for _, list := range slices.Concat(oddLists(), longTexts(), deepTexts()) {
		for _, k := range []int{0, 1, 3, math.MaxInt} {
			text, whole := lend(list)
			before := slices.Clone(whole)
			for _, option := range []int{-1, 0, 1, 2, 3, math.MaxInt} {
				suffixes.Ranks(text, k, option)
				suffixes.Build(text, k, option, api.Kasai, false)
				suffixes.Build(text, k, option, api.Phi, true)
				suffixes.Build(text, k, api.Doubling, option, true)
			}
			if !slices.Equal(whole, before) {
				t.Errorf("a call with the text %v and k %d left %v", list, k, whole)
			}
		}
	}
}

func TestCheckOrderLeavesItsListsP2(t *testing.T) {
	for _, list := range append(oddLists(), longTexts()...) {
		for _, places := range [][]int{orderOf(list), list, {1, 1}, {5}} {
			text, wholeText := lend(list)
			order, wholeOrder := lend(places)
			beforeText, beforeOrder := slices.Clone(wholeText), slices.Clone(wholeOrder)
			suffixes.CheckOrder(text, order)
			if !slices.Equal(wholeText, beforeText) || !slices.Equal(wholeOrder, beforeOrder) {
				t.Errorf("CheckOrder(%v, %v) left %v, %v", list, places, wholeText, wholeOrder)
			}
		}
	}
}

func TestCheckSharedLeavesItsListsP2(t *testing.T) {
	for _, list := range append(oddLists(), longTexts()...) {
		for _, places := range [][]int{orderOf(list), list, {1, 1}} {
			for _, numbers := range [][]int{sharedOf(list), list, {0}} {
				text, wholeText := lend(list)
				order, wholeOrder := lend(places)
				shared, wholeShared := lend(numbers)
				beforeText, beforeOrder, beforeShared := slices.Clone(wholeText), slices.Clone(wholeOrder), slices.Clone(wholeShared)
				suffixes.CheckShared(text, order, shared)
				if !slices.Equal(wholeText, beforeText) || !slices.Equal(wholeOrder, beforeOrder) || !slices.Equal(wholeShared, beforeShared) {
					t.Errorf("CheckShared(%v, %v, %v) left %v, %v, %v", list, places, numbers, wholeText, wholeOrder, wholeShared)
				}
			}
		}
	}
}

// spoil writes into a list and into its spare room.
func spoil(list []int) {
	list = list[:cap(list)]
	for i := range list {
		list[i] = -99
	}
}

func TestListsThatComeOutShareNothingP2(t *testing.T) {
	const k = math.MaxInt
	for _, list := range texts() {
		text, whole := lend(list)
		before := slices.Clone(whole)
		dense, count, _ := suffixes.Dense(text, k)
		starts, _ := suffixes.Buckets(text, k)
		kinds, _ := suffixes.Kinds(text, k)
		wantDense, wantStarts := slices.Clone(dense), slices.Clone(starts)
		otherDense, _, _ := suffixes.Dense(text, k)
		otherStarts, _ := suffixes.Buckets(text, k)
		spoil(otherDense)
		if !slices.Equal(dense, wantDense) || !slices.Equal(starts, wantStarts) || !slices.Equal(whole, before) {
			t.Fatalf("Dense(%v) shares its list", list)
		}
		spoil(otherStarts)
		if !slices.Equal(dense, wantDense) || !slices.Equal(starts, wantStarts) || !slices.Equal(whole, before) {
			t.Fatalf("Buckets(%v) shares its list", list)
		}
		spoil(dense)
		spoil(starts)
		dense, againCount, _ := suffixes.Dense(text, k)
		starts, _ = suffixes.Buckets(text, k)
		againKinds, _ := suffixes.Kinds(text, k)
		if !slices.Equal(dense, wantDense) || againCount != count || !slices.Equal(starts, wantStarts) || againKinds != kinds {
			t.Fatalf("the second answers for %v are others", list)
		}
	}
}

func TestRanksSharesNothingP2(t *testing.T) {
	const k = math.MaxInt
	for _, list := range texts() {
		for _, h := range []int{0, 1, 2, k} {
			text, whole := lend(list)
			before := slices.Clone(whole)
			want := ranksOf(list, h)
			ranks, _ := suffixes.Ranks(text, k, h)
			other, _ := suffixes.Ranks(text, k, h)
			spoil(other)
			if !slices.Equal(ranks, want) || !slices.Equal(whole, before) {
				t.Fatalf("Ranks(%v, %d) shares its list", list, h)
			}
			spoil(ranks)
			if again, _ := suffixes.Ranks(text, k, h); !slices.Equal(again, want) {
				t.Fatalf("the second Ranks(%v, %d) = %v, want %v", list, h, again, want)
			}
		}
	}
}

func TestBuildSharesNothingP2(t *testing.T) {
	const k = math.MaxInt
	for _, list := range append(texts(), deepTexts()...) {
		order, shared := orderOf(list), sharedOf(list)
		for option := range 6 {
			way, by := option%3, option/3
			text, whole := lend(list)
			before := slices.Clone(whole)
			first, _ := suffixes.Build(text, k, way, by, true)
			other, _ := suffixes.Build(text, k, way, by, true)
			if first == nil || other == nil || first == other {
				t.Fatalf("Build(%v, way %d, by %d) gives %p, then %p", list, way, by, first, other)
			}
			work := first.Work
			other.Work = -1
			spoil(other.Order)
			if !slices.Equal(other.Shared, shared) {
				t.Fatalf("Order and Shared of Build(%v, way %d, by %d) share something", list, way, by)
			}
			spoil(other.Shared)
			if !isResult(first, api.Result{Order: order, Shared: shared, Work: work}) || !slices.Equal(whole, before) {
				t.Fatalf("Build(%v, way %d, by %d) shares its lists", list, way, by)
			}
			spoil(first.Shared)
			if !slices.Equal(first.Order, order) {
				t.Fatalf("Shared and Order of Build(%v, way %d, by %d) share something", list, way, by)
			}
			spoil(first.Order)
			again, _ := suffixes.Build(text, k, way, by, true)
			if !isResult(again, api.Result{Order: order, Shared: shared, Work: work}) {
				t.Fatalf("the last Build(%v, way %d, by %d) = %v", list, way, by, again)
			}
		}
	}
}

func TestBeforeAndLongestShareNothingP2(t *testing.T) {
	const k = math.MaxInt
	for _, list := range texts() {
		text, whole := lend(list)
		handedIn := slices.Clone(whole)
		wantBefore, wantLongest := beforeOf(list), longestOf(list)
		before, _ := suffixes.Before(text, k)
		longest, _ := suffixes.Longest(text, k)
		otherBefore, _ := suffixes.Before(text, k)
		otherLongest, _ := suffixes.Longest(text, k)
		spoil(otherBefore)
		if !slices.Equal(before, wantBefore) || !slices.Equal(otherLongest, wantLongest) || !slices.Equal(whole, handedIn) {
			t.Fatalf("Before(%v) shares its list", list)
		}
		spoil(otherLongest)
		if !slices.Equal(before, wantBefore) || !slices.Equal(longest, wantLongest) || !slices.Equal(whole, handedIn) {
			t.Fatalf("Longest(%v) shares its list", list)
		}
		spoil(before)
		spoil(longest)
		before, _ = suffixes.Before(text, k)
		longest, _ = suffixes.Longest(text, k)
		if !slices.Equal(before, wantBefore) || !slices.Equal(longest, wantLongest) {
			t.Fatalf("the last answers for %v: %v, %v", list, before, longest)
		}
	}
}

func TestReduceSharesNothingP2(t *testing.T) {
	const k = math.MaxInt
	for _, list := range append(texts(), deepTexts()...) {
		text, whole := lend(list)
		before := slices.Clone(whole)
		wantMarks, wantNames := reduceOf(list)
		marks, names, _ := suffixes.Reduce(text, k)
		otherMarks, otherNames, _ := suffixes.Reduce(text, k)
		spoil(otherMarks)
		if !slices.Equal(otherNames, wantNames) {
			t.Fatalf("the marks and names of Reduce(%v) share something", list)
		}
		spoil(otherNames)
		if !slices.Equal(marks, wantMarks) || !slices.Equal(names, wantNames) || !slices.Equal(whole, before) {
			t.Fatalf("Reduce(%v) shares its lists", list)
		}
		spoil(names)
		if !slices.Equal(marks, wantMarks) {
			t.Fatalf("the names and marks of Reduce(%v) share something", list)
		}
		spoil(marks)
		marks, names, _ = suffixes.Reduce(text, k)
		if !slices.Equal(marks, wantMarks) || !slices.Equal(names, wantNames) {
			t.Fatalf("the last Reduce(%v) = %v, %v, want %v, %v", list, marks, names, wantMarks, wantNames)
		}
	}
}

func TestReduceAndInducedKeepNothingP2(t *testing.T) {
	text := []int{1, 0, 1, 0, 1, 0, 1}
	want := api.Result{Order: []int{5, 3, 1, 6, 4, 2, 0}, Shared: []int{0, 2, 4, 0, 1, 3, 5}, Work: 1}
	marks, names, _ := suffixes.Reduce(text, 3)
	built, _ := suffixes.Build(text, 3, api.Induced, api.Kasai, true)
	for i := range text {
		text[i] = 1
	}
	if !slices.Equal(marks, []int{1, 3, 5}) || !slices.Equal(names, []int{1, 1, 0}) || !isResult(built, want) {
		t.Errorf("answers changed with the text: %v, %v, %v", marks, names, built)
	}
	text[3] = 0
	want = api.Result{Order: []int{3, 6, 2, 5, 1, 4, 0}, Shared: []int{0, 0, 1, 1, 2, 2, 3}}
	marks, names, _ = suffixes.Reduce(text, 3)
	built, _ = suffixes.Build(text, 3, api.Induced, api.Kasai, true)
	if !slices.Equal(marks, []int{3}) || !slices.Equal(names, []int{0}) || !isResult(built, want) {
		t.Errorf("answers for the changed text: %v, %v, %v", marks, names, built)
	}
}

func TestTurnsSharesNothingP2(t *testing.T) {
	const k = math.MaxInt
	for _, list := range append(texts(), deepTexts()...) {
		text, whole := lend(list)
		before := slices.Clone(whole)
		want := turnsOf(list)
		turns, _ := suffixes.Turns(text, k)
		other, _ := suffixes.Turns(text, k)
		built, _ := suffixes.Build(text, k, api.Turned, api.Kasai, true)
		spoil(other)
		if !slices.Equal(turns, want) || built == nil || !slices.Equal(built.Order, orderOf(list)) || !slices.Equal(whole, before) {
			t.Fatalf("Turns(%v) shares its list", list)
		}
		spoil(built.Order)
		if !slices.Equal(turns, want) {
			t.Fatalf("Order of Build(%v) and Turns share something", list)
		}
		spoil(turns)
		if again, _ := suffixes.Turns(text, k); !slices.Equal(again, want) {
			t.Fatalf("the last Turns(%v) = %v, want %v", list, again, want)
		}
	}
}

func TestTurnsAndTurnedKeepNothingP2(t *testing.T) {
	text := []int{1, 0, 1, 0, 1, 0, 1}
	want := api.Result{Order: []int{5, 3, 1, 6, 4, 2, 0}, Shared: []int{0, 2, 4, 0, 1, 3, 5}, Work: 3}
	turns, _ := suffixes.Turns(text, 3)
	built, _ := suffixes.Build(text, 3, api.Turned, api.Kasai, true)
	for i := range text {
		text[i] = 1
	}
	if !slices.Equal(turns, []int{5, 3, 1}) || !isResult(built, want) {
		t.Errorf("answers changed with the text: %v, %v", turns, built)
	}
	text[3] = 0
	want = api.Result{Order: []int{3, 6, 2, 5, 1, 4, 0}, Shared: []int{0, 0, 1, 1, 2, 2, 3}, Work: 1}
	turns, _ = suffixes.Turns(text, 3)
	built, _ = suffixes.Build(text, 3, api.Turned, api.Kasai, true)
	if !slices.Equal(turns, []int{3}) || !isResult(built, want) {
		t.Errorf("answers for the changed text: %v, %v", turns, built)
	}
}

func TestNeighboursKeepNothingP2(t *testing.T) {
	text, order, shared := []int{1, 0, 2, 0, 2, 0}, []int{5, 3, 1, 0, 4, 2}, []int{0, 1, 3, 0, 0, 2}
	before, _ := suffixes.Before(text, 3)
	longest, _ := suffixes.Longest(text, 3)
	if !suffixes.CheckShared(text, order, shared) {
		t.Error("CheckShared of the text = false")
	}
	for i := range text {
		text[i] = 1
	}
	if !slices.Equal(before, []int{1, 3, 4, 5, 0, -1}) || !slices.Equal(longest, []int{0, 3, 2, 1, 0, 0}) {
		t.Errorf("answers changed with the text: %v, %v", before, longest)
	}
	before, _ = suffixes.Before(text, 3)
	longest, _ = suffixes.Longest(text, 3)
	if !slices.Equal(before, []int{1, 2, 3, 4, 5, -1}) || !slices.Equal(longest, []int{5, 4, 3, 2, 1, 0}) {
		t.Errorf("answers for the changed text: %v, %v", before, longest)
	}
	if suffixes.CheckShared(text, order, shared) {
		t.Error("CheckShared of the changed text and the old lists = true")
	}
	for i := range text {
		order[i], shared[i] = 5-i, i
	}
	if !suffixes.CheckShared(text, order, shared) {
		t.Error("CheckShared of the changed text and changed lists = false")
	}
}

func TestRanksAndBuildKeepNoTextP2(t *testing.T) {
	text := []int{1, 0, 2, 0, 2, 0}
	ranks, _ := suffixes.Ranks(text, 3, 2)
	built, _ := suffixes.Build(text, 3, api.Doubling, api.Kasai, true)
	for i := range text {
		text[i] = 1
	}
	if !slices.Equal(ranks, []int{3, 1, 4, 1, 4, 0}) || !isResult(built, api.Result{Order: []int{5, 3, 1, 0, 4, 2}, Shared: []int{0, 1, 3, 0, 0, 2}, Work: 2}) {
		t.Errorf("answers changed with the text: %v, %v", ranks, built)
	}
	ranks, _ = suffixes.Ranks(text, 3, 2)
	built, _ = suffixes.Build(text, 3, api.Doubling, api.Kasai, true)
	if !slices.Equal(ranks, []int{1, 1, 1, 1, 1, 0}) || !isResult(built, api.Result{Order: []int{5, 4, 3, 2, 1, 0}, Shared: []int{0, 1, 2, 3, 4, 5}, Work: 3}) {
		t.Errorf("answers for the changed text: %v, %v", ranks, built)
	}
}

func TestNothingHandedInIsKeptP2(t *testing.T) {
	text := []int{1, 0, 2, 0, 2, 0}
	dense, _, _ := suffixes.Dense(text, 3)
	starts, _ := suffixes.Buckets(text, 3)
	kinds, _ := suffixes.Kinds(text, 3)
	for i := range text {
		text[i] = 1
	}
	if !slices.Equal(dense, []int{1, 0, 2, 0, 2, 0}) || !slices.Equal(starts, []int{0, 3, 4, 6}) || kinds != "LMLMLL" {
		t.Errorf("answers changed with the text: %v, %v, %q", dense, starts, kinds)
	}
	dense, count, _ := suffixes.Dense(text, 3)
	starts, _ = suffixes.Buckets(text, 3)
	kinds, _ = suffixes.Kinds(text, 3)
	if !slices.Equal(dense, make([]int, 6)) || count != 1 || !slices.Equal(starts, []int{0, 6}) || kinds != "LLLLLL" {
		t.Errorf("answers for the changed text: %v, %d, %v, %q", dense, count, starts, kinds)
	}
	if !suffixes.CheckOrder(text, []int{5, 4, 3, 2, 1, 0}) {
		t.Error("CheckOrder of the changed text = false")
	}
}
