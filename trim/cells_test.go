package trim

import (
	"slices"
	"testing"

	"stickful/api"
)

// P13.1: the places of a line, from one on, in either direction; none of a place that it does not have.
func TestCells(t *testing.T) {
	l := make([]api.Cell, 4)
	for _, x := range []struct {
		l        []api.Cell
		at, step int
		want     []int
	}{
		{l, 0, 1, []int{0, 1, 2, 3}}, {l, 3, -1, []int{3, 2, 1, 0}}, {l, 2, 1, []int{2, 3}}, {l, 2, -1, []int{2, 1, 0}},
		{l, 0, -1, []int{0}}, {l, 3, 1, []int{3}}, {l, 4, 1, nil}, {l, 4, -1, nil}, {l, -1, 1, nil}, {l, -1, -1, nil},
		{nil, 0, 1, nil}, {nil, -1, -1, nil}, {l[:1], 0, 1, []int{0}}, {l[:1], 0, -1, []int{0}},
	} {
		row := cells(x.l, x.at, x.step)
		for range 2 { // a second time the same
			if got := slices.Collect(row); !slices.Equal(got, x.want) {
				t.Errorf("from %d by %d: %v, want %v", x.at, x.step, got, x.want)
			}
		}
	}
}

// P13.1: who wants no more places gets none.
func TestCellsLeft(t *testing.T) {
	for _, step := range []int{1, -1} {
		count := 0
		for i := range cells(make([]api.Cell, 5), 2, step) {
			count++
			if i == 2+step {
				break
			}
		}
		if count != 2 {
			t.Errorf("by %d: %d", step, count)
		}
	}
}
