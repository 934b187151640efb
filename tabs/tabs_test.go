package tabs_test

import (
	"math"
	"slices"
	"testing"

	"stickful/api"
	"stickful/tabs"
)

const (
	fit      = int64(1) << 62
	greatest = int64(math.MaxInt64)
	least    = int64(math.MinInt64)
)

func cell(kind uint8, adv int64) api.Cell { return api.Cell{Kind: kind, Adv: adv} }
func char(adv int64) api.Cell             { return cell(api.CeChar, adv) }
func tab(adv int64) api.Cell              { return cell(api.CeTab, adv) }

// P12.1, P12.2: the chapter's examples, and the one of the whole.
func TestExamples(t *testing.T) {
	line := []api.Cell{char(5), tab(8), char(5)}
	expect(t, line, nil, 0, []int64{0, 5, 8, 13}, api.OK)
	expect(t, line, nil, 3, []int64{3, 8, 16, 21}, api.OK)
	expect(t, line, nil, 4, []int64{4, 9, 16, 21}, api.OK)
	expect(t, line[:2], []uint8{api.RoKept, api.RoGone}, 0, []int64{0, 5, 5}, api.OK)
	expect(t, []api.Cell{tab(0)}, nil, 0, []int64{0, 0}, api.OK)
	expect(t, []api.Cell{tab(-1)}, nil, 0, nil, api.ErrArg)
	expect(t, []api.Cell{char(1)}, nil, fit, nil, api.ErrOver)
	expectStep(t, tab(8), 5, 8, api.OK)
	expectStep(t, tab(8), 8, 16, api.OK)
	expectStep(t, tab(-1), 0, 0, api.ErrArg)
	expectStep(t, char(1), fit, 0, api.ErrOver)
}

// P12.2: a row without cells has one pen, whatever the roles.
func TestNoCells(t *testing.T) {
	for _, l := range [][]api.Cell{nil, {}, {tab(-1)}} {
		for _, roles := range [][]uint8{nil, {}, {api.RoGone}, {api.RoHang, 255}} {
			for _, x := range []int64{-fit, -8, -1, 0, 1, 7, fit} {
				expect(t, l[:0], roles, x, []int64{x}, api.OK)
			}
		}
	}
}

// P12.1, P12.2: each Kind that is named, and numbers above them: only a CeTab has stops.
func TestKinds(t *testing.T) {
	for _, x := range []struct {
		kind uint8
		want int64
	}{
		{api.CeChar, 13}, {api.CeSpace, 13}, {api.CeHang, 13}, {api.CeKeep, 13}, {api.CeTab, 8},
		{api.CeForced, 13}, {api.CeAtom, 13}, {api.CeOpen, 13}, {api.CeClose, 13}, {api.CeClose + 1, 13}, {128, 13}, {255, 13},
	} {
		c := cell(x.kind, 8)
		expectStep(t, c, 5, x.want, api.OK)
		expect(t, []api.Cell{c}, nil, 5, []int64{5, x.want}, api.OK)
		expect(t, []api.Cell{char(5), c, char(1)}, nil, 0, []int64{0, 5, x.want, x.want + 1}, api.OK)
		expectStep(t, cell(x.kind, 0), 5, 5, api.OK)
		if x.kind != api.CeTab {
			expectStep(t, cell(x.kind, -8), 5, -3, api.OK)
			expect(t, []api.Cell{cell(x.kind, -8), c}, nil, 5, []int64{5, -3, 5}, api.OK)
		}
	}
}

// P12.1, P12.2: tabs at a stop, just before it, just after it, on both sides of 0, and of an Adv of 0 and 1.
func TestStops(t *testing.T) {
	for _, x := range []struct{ adv, from, want int64 }{
		{8, 0, 8}, {8, 1, 8}, {8, 7, 8}, {8, 8, 16}, {8, 9, 16}, {8, 15, 16}, {8, 16, 24}, {8, 800, 808},
		{8, -1, 0}, {8, -7, 0}, {8, -8, 0}, {8, -9, -8}, {8, -15, -8}, {8, -16, -8}, {8, -17, -16},
		{1, 0, 1}, {1, 1, 2}, {1, -1, 0}, {1, -2, -1}, {1, 41, 42},
		{0, 0, 0}, {0, 5, 5}, {0, -5, -5}, {0, fit, fit}, {0, -fit, -fit},
		{7, 6, 7}, {7, 7, 14}, {7, 8, 14}, {7, -6, 0}, {7, -7, 0}, {7, -8, -7},
		{1, fit - 1, fit}, {2, fit - 1, fit}, {2, fit - 2, fit}, {fit, 0, fit}, {fit, fit - 1, fit}, {fit, -1, 0}, {fit, -fit, 0},
		{1, -fit, 1 - fit}, {8, -fit, 8 - fit}, {3, -fit, 1 - fit}, {greatest, -1, 0}, {greatest, -fit, 0}, {fit + 1, -fit, 0},
	} {
		expectStep(t, tab(x.adv), x.from, x.want, api.OK)
		expect(t, []api.Cell{tab(x.adv)}, nil, x.from, []int64{x.from, x.want}, api.OK)
	}
}

// P12.2: longer rows: tabs one after the other, of several distances, at both ends, and cells that go back.
func TestRows(t *testing.T) {
	for _, x := range []struct {
		l    []api.Cell
		from int64
		want []int64
	}{
		{[]api.Cell{tab(8), tab(8), tab(8)}, 0, []int64{0, 8, 16, 24}},
		{[]api.Cell{tab(8), tab(12), tab(8), tab(1)}, 1, []int64{1, 8, 12, 16, 17}},
		{[]api.Cell{tab(0), tab(8), tab(0), char(3), tab(0)}, -9, []int64{-9, -9, -8, -8, -5, -5}},
		{[]api.Cell{char(8), tab(8), char(7), tab(8), char(9), tab(8)}, 0, []int64{0, 8, 16, 23, 24, 33, 40}},
		{[]api.Cell{char(20), char(-15), tab(8), char(-15), tab(8), char(-20), tab(8)}, 0, []int64{0, 20, 5, 8, -7, 0, -20, -16}},
		{[]api.Cell{cell(api.CeOpen, 64), char(512), cell(api.CeSpace, 256), tab(4096), cell(api.CeClose, -32), cell(api.CeForced, 0)}, 100, []int64{100, 164, 676, 932, 4096, 4064, 4064}},
		{[]api.Cell{cell(api.CeAtom, fit), cell(api.CeAtom, -fit), cell(api.CeAtom, -fit)}, 0, []int64{0, fit, 0, -fit}},
		{[]api.Cell{char(least), char(greatest), char(1)}, fit, []int64{fit, -fit, fit - 1, fit}},
	} {
		expect(t, x.l, nil, x.from, x.want, api.OK)
	}
}

// P12.2: a cell that has no role is kept, and a role that has no cell counts for nothing.
func TestHowManyRoles(t *testing.T) {
	l := []api.Cell{char(5), tab(8), char(5), tab(8)}
	gone := slices.Repeat([]uint8{api.RoGone}, len(l)+3)
	for n, want := range [][]int64{
		{1, 6, 8, 13, 16}, {1, 1, 8, 13, 16}, {1, 1, 1, 6, 8}, {1, 1, 1, 1, 8}, {1, 1, 1, 1, 1}, {1, 1, 1, 1, 1}, {1, 1, 1, 1, 1}, {1, 1, 1, 1, 1},
	} {
		expect(t, l, gone[:n], 1, want, api.OK)
	}
	expect(t, l, nil, 1, []int64{1, 6, 8, 13, 16}, api.OK)
	expect(t, l, []uint8{0, 0, 0, 0, api.RoGone, api.RoGone}, 1, []int64{1, 6, 8, 13, 16}, api.OK)
}

// P12.2: each role that a number can be: only RoGone skips a cell, be it a tab or not.
func TestEachRole(t *testing.T) {
	l := []api.Cell{char(5), tab(8), char(5), tab(8)}
	for role := range 256 {
		all := slices.Repeat([]uint8{uint8(role)}, len(l))
		if uint8(role) == api.RoGone {
			expect(t, l, all, 1, []int64{1, 1, 1, 1, 1}, api.OK)
		} else {
			expect(t, l, all, 1, []int64{1, 6, 8, 13, 16}, api.OK)
		}
	}
}

// P12.2: cells that are skipped: the first one, the last one, each one in between, tabs, all of them.
func TestSkipped(t *testing.T) {
	l := []api.Cell{char(5), tab(8), char(-3), tab(4), char(7)}
	for _, x := range []struct {
		roles []uint8
		want  []int64
	}{
		{[]uint8{0, 0, 0, 0, 0}, []int64{2, 7, 8, 5, 8, 15}},
		{[]uint8{1, 0, 0, 0, 0}, []int64{2, 2, 8, 5, 8, 15}},
		{[]uint8{0, 1, 0, 0, 0}, []int64{2, 7, 7, 4, 8, 15}},
		{[]uint8{0, 0, 1, 0, 0}, []int64{2, 7, 8, 8, 12, 19}},
		{[]uint8{0, 0, 0, 1, 0}, []int64{2, 7, 8, 5, 5, 12}},
		{[]uint8{0, 0, 0, 0, 1}, []int64{2, 7, 8, 5, 8, 8}},
		{[]uint8{0, 1, 0, 1, 0}, []int64{2, 7, 7, 4, 4, 11}},
		{[]uint8{1, 0, 0, 0, 1}, []int64{2, 2, 8, 5, 8, 8}},
		{[]uint8{1, 1, 1, 1, 1}, []int64{2, 2, 2, 2, 2, 2}},
		{[]uint8{2, 2, 1, 2, 2}, []int64{2, 7, 8, 8, 12, 19}},
	} {
		expect(t, l, x.roles, 2, x.want, api.OK)
	}
}

// P12.1, P12.2: of a cell only Kind and Adv count.
func TestOtherFields(t *testing.T) {
	for _, c := range []api.Cell{{}, {Node: 7, Char: 3}, {Node: -1, Char: -1}, {Soft: true}, {Emerg: true}, {Node: math.MinInt, Char: math.MaxInt, Soft: true, Emerg: true}} {
		one, other := c, c
		one.Adv, other.Kind, other.Adv = 5, api.CeTab, 8
		expectStep(t, one, 3, 8, api.OK)
		expectStep(t, other, 3, 8, api.OK)
		expectStep(t, other, 8, 16, api.OK)
		expect(t, []api.Cell{one, other, one, other}, nil, 3, []int64{3, 8, 16, 21, 24}, api.OK)
		other.Adv = -1
		expectStep(t, other, 3, 0, api.ErrArg)
		expect(t, []api.Cell{one, other}, nil, 3, nil, api.ErrArg)
	}
}

// P12.2, R1: long rows do not take long.
func TestLongRows(t *testing.T) {
	const most = 1 << 20
	for _, x := range []struct {
		c     api.Cell
		roles []uint8
		last  int64
		e     api.Errno
	}{
		{char(3), nil, 3 * most, api.OK}, {tab(8), nil, 8 * most, api.OK}, {tab(0), nil, 0, api.OK},
		{tab(8), slices.Repeat([]uint8{api.RoGone}, most), 0, api.OK}, {tab(8), slices.Repeat([]uint8{api.RoGone}, most/2), 8 * most / 2, api.OK},
		{char(fit / most), nil, fit, api.OK}, {char(fit/most + 1), nil, 0, api.ErrOver}, {tab(-1), nil, 0, api.ErrArg},
	} {
		l := slices.Repeat([]api.Cell{x.c}, most)
		pens, e := tabs.Pens(l, x.roles, 0)
		last, lastE := tabs.End(l, x.roles, 0)
		if e != x.e || lastE != x.e || last != x.last {
			t.Errorf("many %v: %d, %d, %d", x.c, e, last, lastE)
		}
		if e == api.OK && (len(pens) != most+1 || pens[0] != 0 || pens[most] != x.last) {
			t.Errorf("many %v: %d pens", x.c, len(pens))
		}
	}
}
