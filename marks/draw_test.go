package marks

import (
	"slices"
	"testing"
)

// With the right marks it can't be seen what the order was made of; out of marks in a wrong order the others are drawn in wrongly too.
func TestAllIsDrawnInOutOfTheMarksOrder(t *testing.T) {
	text := []int{1, 0, 1, 0, 1, 0, 1}
	if got := drawnIn(text, []int{5, 3, 1}); !slices.Equal(got, []int{5, 3, 1, 6, 4, 2, 0}) {
		t.Errorf("out of 5 3 1 comes %v", got)
	}
	if got := drawnIn(text, []int{1, 3, 5}); !slices.Equal(got, []int{5, 1, 3, 6, 0, 2, 4}) {
		t.Errorf("out of 1 3 5 comes %v", got)
	}
}
