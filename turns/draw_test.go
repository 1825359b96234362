package turns

import (
	"slices"
	"testing"
)

// With the right turns it can't be seen what the order was made of; out of turns in a wrong order the others are drawn in wrongly too.
func TestAllIsDrawnInOutOfTheTurnsOrder(t *testing.T) {
	text := []int{0, 0, 1, 0, 0, 1, 0, 0, 1}
	if got := drawnIn(text, []int{7, 4, 1}); !slices.Equal(got, []int{6, 3, 0, 7, 4, 1, 8, 5, 2}) {
		t.Errorf("out of 7 4 1 comes %v", got)
	}
	if got := drawnIn(text, []int{1, 4, 7}); !slices.Equal(got, []int{0, 3, 6, 1, 4, 7, 8, 2, 5}) {
		t.Errorf("out of 1 4 7 comes %v", got)
	}
}
