package neighbours

import (
	"slices"
	"testing"
)

// What place 0 shares less one is taken over to place 1 and not compared again. With the text's order that can't be seen from without; with another list it can: 3 and 1 have nothing in common.
func TestNoSymbolIsComparedAgainP11(t *testing.T) {
	text, list := []int{0, 0, 0, 1}, []int{3, 1, 0, 2}
	want := []int{0, 1, 2, 1}
	if got := Kasai(text, list); !slices.Equal(got, want) {
		t.Errorf("Kasai = %v, want %v", got, want)
	}
	if got := Phi(text, list); !slices.Equal(got, want) {
		t.Errorf("Phi = %v, want %v", got, want)
	}
	before := Before(list)
	if got := Longest(text, before); !slices.Equal(got, []int{2, 1, 1, 0}) {
		t.Errorf("Longest = %v, want 2 1 1 0", got)
	}
}
