package tabs_test

import (
	"math/rand/v2"
	"slices"
	"testing"

	"stickful/api"
	"stickful/tabs"
)

// drawn is a row, with roles, and where it begins.
type drawn struct {
	l     []api.Cell
	roles []uint8
	from  int64
}

// source draws the same numbers in each run.
func source() *rand.Rand { return rand.New(rand.NewPCG(12, 120)) }

// drawnNumber is a small one mostly, of either sign, or one that is near where pens end.
func drawnNumber(r *rand.Rand) int64 {
	switch r.IntN(60) {
	case 0:
		return r.Int64() >> r.IntN(63)
	case 1:
		return -r.Int64() >> r.IntN(63)
	case 2:
		return fit - r.Int64N(20)
	case 3:
		return r.Int64N(20) - fit
	}
	return r.Int64N(101) - 40
}

// drawnCell is a tab in one case of three; it is seldom not valid.
func drawnCell(r *rand.Rand) api.Cell {
	c := cell(uint8(r.IntN(int(api.CeClose)+3)), drawnNumber(r))
	if r.IntN(4) == 0 {
		c.Kind = api.CeTab
	}
	if c.Kind == api.CeTab && r.IntN(40) > 0 {
		c.Adv = max(c.Adv, -(c.Adv + 1)) // as many of them are 0 as are 1
	}
	c.Node, c.Char, c.Soft, c.Emerg = r.IntN(9), r.IntN(9)-1, r.IntN(2) == 0, r.IntN(2) == 0
	return c
}

// drawnRow is a row of up to 12 cells, with roles that are none, fewer, as many or more.
func drawnRow(r *rand.Rand) drawn {
	d := drawn{from: drawnNumber(r)}
	for range r.IntN(13) {
		d.l = append(d.l, drawnCell(r))
	}
	if r.IntN(3) > 0 {
		for range r.IntN(len(d.l) + 3) {
			d.roles = append(d.roles, []uint8{api.RoKept, api.RoKept, api.RoGone, api.RoHang, 3, 255}[r.IntN(6)])
		}
	}
	return d
}

// isTab reports whether the cell i is a tab of a distance above 0 that is not skipped.
func (d drawn) isTab(i int) bool {
	return d.l[i].Kind == api.CeTab && d.l[i].Adv > 0 && roleOf(d.roles, i) != api.RoGone
}

// pens are those that the program returns.
func (d drawn) pens() ([]int64, api.Errno) { return tabs.Pens(d.l, d.roles, d.from) }

// P12.1, P12.2: drawn rows, and each of their cells.
func TestDrawnRows(t *testing.T) {
	r := source()
	for range 60000 {
		d := drawnRow(r)
		check(t, d.l, d.roles, d.from)
		for _, c := range d.l {
			checkStep(t, c, d.from)
		}
	}
}

// P12.1 to P12.4: what is drawn has all that the other tests rely on.
func TestDrawnRowsHaveAll(t *testing.T) {
	r := source()
	var kinds [api.CeClose + 3]int
	errors := make(map[api.Errno]int)
	var stops, skipped, below, fewer, more int
	for range 60000 {
		d := drawnRow(r)
		pens, e := d.pens()
		errors[e]++
		if e != api.OK {
			continue
		}
		for i, c := range d.l {
			kinds[c.Kind]++
			switch {
			case d.isTab(i):
				stops++
				if pens[i] < 0 {
					below++
				}
			case c.Kind == api.CeTab && c.Adv > 0:
				skipped++
			}
		}
		if d.roles != nil && len(d.roles) < len(d.l) {
			fewer++
		} else if len(d.roles) > len(d.l) {
			more++
		}
	}
	for _, n := range append(kinds[:], errors[api.OK], errors[api.ErrArg], errors[api.ErrOver], stops, skipped, below, fewer, more) {
		if n < 1000 {
			t.Errorf("kinds %v, errors %v, %d stops, %d below 0, %d skipped, roles: %d fewer, %d more", kinds, errors, stops, below, skipped, fewer, more)
		}
	}
}

// cut is the row up to the place at, and the rest of it, which has no number yet.
func (d drawn) cut(at int) (beginning, rest drawn) {
	n := min(at, len(d.roles))
	return drawn{d.l[:at], d.roles[:n], d.from}, drawn{d.l[at:], d.roles[n:], 0}
}

// P12.3: a row that is cut at each of its places, also at its ends.
func TestCutRows(t *testing.T) {
	r := source()
	for range 30000 {
		d := drawnRow(r)
		whole, e := d.pens()
		last, _ := tabs.End(d.l, d.roles, d.from)
		for at := range len(d.l) + 1 {
			beginning, rest := d.cut(at)
			first, firstE := beginning.pens()
			if e != api.OK {
				wantFault(t, d, at, e)
				continue
			}
			if firstE != api.OK {
				t.Fatalf("%v up to %d: %d", d, at, firstE)
			}
			rest.from = first[at]
			second, secondE := rest.pens()
			if secondE != api.OK || second[0] != first[at] || !slices.Equal(slices.Concat(first, second[1:]), whole) {
				t.Fatalf("%v is %v; up to %d %v, then %v, %d", d, whole, at, first, second, secondE)
			}
			if end, endE := tabs.End(rest.l, rest.roles, rest.from); endE != api.OK || end != last {
				t.Fatalf("%v from %d: %d, %d, want %d", d, at, end, endE, last)
			}
		}
	}
}

// wantFault expects that a row's error is in its beginning or in the rest.
func wantFault(t *testing.T, d drawn, at int, e api.Errno) {
	t.Helper()
	beginning, rest := d.cut(at)
	first, firstE := beginning.pens()
	if firstE == e {
		return
	}
	if firstE == api.OK {
		rest.from = first[at]
	}
	if _, restE := rest.pens(); restE != e {
		t.Fatalf("%v is %d; up to %d %d, then %d", d, e, at, firstE, restE)
	}
}

// P12.4: a tab advances by at least 1 and at most its Adv, to a multiple of it.
func TestTabsAdvance(t *testing.T) {
	r := source()
	tried := 0
	for range 60000 {
		d := drawnRow(r)
		pens, e := d.pens()
		if e != api.OK {
			continue
		}
		for i, c := range d.l {
			if !d.isTab(i) {
				continue
			}
			tried++
			by := uint64(pens[i+1]) - uint64(pens[i]) // two pens may be 2^63 apart
			if pens[i+1] <= pens[i] || by > uint64(c.Adv) || pens[i+1]%c.Adv != 0 {
				t.Errorf("%v is %v: the tab %d", d, pens, i)
			}
			if after, e := tabs.Step(c, pens[i]); e != api.OK || after != pens[i+1] {
				t.Errorf("Step(%v, %d) is %d, %d", c, pens[i], after, e)
			}
		}
	}
	if tried < 10000 {
		t.Error(tried)
	}
}

// P12.4: without tabs, pens that begin further are all as much further.
func TestRowsFurther(t *testing.T) {
	r := source()
	tried := 0
	for range 60000 {
		d := drawnRow(r)
		for i := range d.l {
			if d.l[i].Kind == api.CeTab {
				d.l[i].Kind = api.CeKeep
			}
		}
		further := d
		n := drawnNumber(r)
		further.from += n
		pens, e := d.pens()
		other, otherE := further.pens()
		if e != api.OK || otherE != api.OK {
			continue
		}
		tried++
		for i := range pens {
			pens[i] += n
		}
		if !slices.Equal(pens, other) {
			t.Errorf("%v, %d further: %v, want %v", d, n, other, pens)
		}
	}
	if tried < 10000 {
		t.Error(tried)
	}
}
