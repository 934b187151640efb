package class

import (
	"testing"

	"stickful/api"
)

// P4.3, and the way of the search: rows are in order, do not overlap, and are of a class; a row that was left out at the end of the array would be out of order.
func TestRowsInOrder(t *testing.T) {
	l := rows()
	for i, w := range l {
		if w.from > w.to || w.class == api.ClAL || w.class > api.ClCB {
			t.Errorf("the row %d is %x to %x, %d", i, w.from, w.to, w.class)
		}
		if i > 0 && l[i-1].to >= w.from {
			t.Errorf("%x to %x is not before %x to %x", l[i-1].from, l[i-1].to, w.from, w.to)
		}
	}
}

// P4.2, and the way of the search: so are the wide ranges.
func TestWideRangesInOrder(t *testing.T) {
	for i, w := range wides {
		if w.from > w.to || i > 0 && wides[i-1].to >= w.from {
			t.Errorf("%x to %x is out of order", w.from, w.to)
		}
	}
}
