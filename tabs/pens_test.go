package tabs

import (
	"slices"
	"testing"

	"stickful/api"
)

// P12.2: the pens before an error are produced, none after it, and the error is reported beside them.
func TestPensStop(t *testing.T) {
	const most = 1 << 62
	l := []api.Cell{{Adv: 5}, {Kind: api.CeTab, Adv: 8}, {Adv: most}, {Adv: -8}}
	for _, x := range []struct {
		l     []api.Cell
		roles []uint8
		from  int64
		want  []int64
		e     api.Errno
	}{
		{l, nil, 0, []int64{0, 5, 8}, api.ErrOver},
		{l, nil, most - 5, []int64{most - 5, most}, api.ErrOver},
		{l, nil, most + 1, nil, api.ErrOver},
		{l, []uint8{0, 0, api.RoGone}, 0, []int64{0, 5, 8, 8, 0}, api.OK},
		{append(slices.Clone(l[:2]), api.Cell{Kind: api.CeTab, Adv: -1}), nil, 0, nil, api.ErrArg},
		{nil, nil, 3, []int64{3}, api.OK},
	} {
		row, e := pens(x.l, x.roles, x.from)
		for range 2 { // a second time the same
			if got := slices.Collect(row); !slices.Equal(got, x.want) || *e != x.e {
				t.Errorf("pens(%v, %v, %d) are %v, %d, want %v, %d", x.l, x.roles, x.from, got, *e, x.want, x.e)
			}
		}
	}
}

// P12.2: who wants no more pens gets none, and no error of those that come after.
func TestPensLeft(t *testing.T) {
	l := []api.Cell{{Adv: 5}, {Adv: 5}, {Adv: 1 << 62}}
	for n, want := range []int64{0, 5, 10} {
		row, e := pens(l, nil, 0)
		count := 0
		for pen := range row {
			if count == n {
				if pen != want {
					t.Errorf("the pen %d is %d, want %d", n, pen, want)
				}
				break
			}
			count++
		}
		if count != n || *e != api.OK {
			t.Errorf("after %d of %d: %d", count, n, *e)
		}
	}
}
