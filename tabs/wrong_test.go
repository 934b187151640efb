package tabs_test

import (
	"slices"
	"testing"

	"stickful/api"
	"stickful/tabs"
)

// belowZero are numbers that no tab may have.
func belowZero() []int64 {
	return []int64{-1, -2, -8, -1 << 31, -1 << 32, -fit, -fit - 1, least + 1, least}
}

// P12.1, P12.2: a tab that is not valid, at each place of a row, whatever its role is.
func TestWrongTab(t *testing.T) {
	for _, adv := range belowZero() {
		expectStep(t, tab(adv), 0, 0, api.ErrArg)
		for n := range 6 {
			for at := range n + 1 {
				l := slices.Insert(slices.Repeat([]api.Cell{char(5)}, n), at, tab(adv))
				roles := make([]uint8, n+1)
				for role := range 4 {
					roles[at] = uint8(role)
					expect(t, l, roles, 0, nil, api.ErrArg)
				}
				expect(t, l, nil, 0, nil, api.ErrArg)
				expect(t, l, roles[:at], 0, nil, api.ErrArg)
				expect(t, l, slices.Repeat([]uint8{api.RoGone}, n+1), 0, nil, api.ErrArg)
				l[at].Kind = api.CeSpace
				check(t, l, roles, 0)
			}
		}
	}
}

// P12.1: ErrArg comes before ErrOver, whatever does not fit.
func TestStepErrorsInOrder(t *testing.T) {
	for _, adv := range belowZero() {
		for _, x := range []int64{least, -fit - 1, -fit, -8, 0, 8, fit, fit + 1, greatest} {
			expectStep(t, tab(adv), x, 0, api.ErrArg)
		}
	}
}

// P12.2: ErrArg comes before ErrOver, also where the pen that does not fit is before the tab.
func TestErrorsInOrder(t *testing.T) {
	for _, adv := range belowZero() {
		for _, x := range []int64{least, -fit - 1, fit + 1, greatest} {
			expect(t, []api.Cell{tab(adv)}, nil, x, nil, api.ErrArg)
			expect(t, []api.Cell{char(0), tab(adv)}, nil, x, nil, api.ErrArg)
			expect(t, []api.Cell{char(0), tab(adv)}, []uint8{api.RoGone, api.RoGone}, x, nil, api.ErrArg)
			expect(t, []api.Cell{char(0), tab(8)}, nil, x, nil, api.ErrOver)
		}
		for _, l := range [][]api.Cell{{char(fit), char(fit), tab(adv)}, {char(fit), tab(8), tab(adv)}, {char(fit), tab(adv), char(fit)}, {tab(adv), char(fit), char(fit)}} {
			expect(t, l, nil, 0, nil, api.ErrArg)
			at := slices.IndexFunc(l, notValid)
			l[at] = tab(0)
			expect(t, l, nil, 0, nil, api.ErrOver)
		}
	}
}

// P12.2: the first pen, within 2^62 and just beyond, whether or not cells come after it, or are skipped.
func TestFirstPen(t *testing.T) {
	for _, x := range []struct {
		from int64
		e    api.Errno
	}{
		{fit, api.OK}, {fit - 1, api.OK}, {-fit, api.OK}, {1 - fit, api.OK},
		{fit + 1, api.ErrOver}, {fit + 2, api.ErrOver}, {-fit - 1, api.ErrOver}, {-fit - 2, api.ErrOver}, {greatest, api.ErrOver}, {least, api.ErrOver},
	} {
		for _, l := range [][]api.Cell{nil, {char(0)}, {tab(0)}, {tab(0), char(0), tab(0)}, {tab(8), char(1)}} {
			gone := slices.Repeat([]uint8{api.RoGone}, len(l))
			want := slices.Repeat([]int64{x.from}, len(l)+1)
			if x.e != api.OK {
				want = nil
			}
			expect(t, l, gone, x.from, want, x.e)
			if len(l) > 0 && l[0].Adv == 0 {
				expect(t, l, nil, x.from, want, x.e)
			}
		}
	}
	expect(t, []api.Cell{char(-1)}, nil, fit+1, nil, api.ErrOver) // though the last one would fit
	expect(t, []api.Cell{char(1)}, nil, -fit-1, nil, api.ErrOver)
	expect(t, []api.Cell{tab(8)}, nil, -fit-1, nil, api.ErrOver)
	expect(t, []api.Cell{char(-fit)}, nil, greatest, nil, api.ErrOver)
	expect(t, []api.Cell{char(fit)}, nil, least, nil, api.ErrOver)
}

// P12.2: a pen within a row that does not fit, though the last one does; and the last one.
func TestLaterPens(t *testing.T) {
	for _, x := range []struct {
		l    []api.Cell
		from int64
		want []int64
	}{
		{[]api.Cell{char(1), char(-1)}, fit - 1, []int64{fit - 1, fit, fit - 1}},
		{[]api.Cell{char(1), char(-1)}, fit, nil},
		{[]api.Cell{char(-1), char(1)}, 1 - fit, []int64{1 - fit, -fit, 1 - fit}},
		{[]api.Cell{char(-1), char(1)}, -fit, nil},
		{[]api.Cell{char(5), char(-5), char(fit)}, 0, []int64{0, 5, 0, fit}},
		{[]api.Cell{char(5), char(-4), char(fit)}, 0, nil},
		{[]api.Cell{char(5), char(-6), char(-fit)}, 0, nil},
		{[]api.Cell{char(5), char(-5), char(-fit)}, 0, []int64{0, 5, 0, -fit}},
		{[]api.Cell{char(fit), char(fit), char(-fit)}, 0, nil},
		{[]api.Cell{char(-fit), char(-fit), char(fit)}, 0, nil},
		{[]api.Cell{char(fit), tab(1), char(-fit)}, 0, nil},
		{[]api.Cell{char(fit - 1), tab(1), char(-fit)}, 0, []int64{0, fit - 1, fit, 0}},
		{[]api.Cell{char(-fit - 1), tab(8)}, 0, nil}, // a stop that would fit is after a pen that does not
		{[]api.Cell{char(-fit - 1), tab(0)}, 0, nil},
		{[]api.Cell{char(-fit), tab(8)}, 0, []int64{0, -fit, 8 - fit}},
	} {
		e := api.OK
		if x.want == nil {
			e = api.ErrOver
		}
		expect(t, x.l, nil, x.from, x.want, e)
	}
}

// P12.1, P12.2: sums that are beyond what an int64 holds, also those that would wrap round to a pen that fits.
func TestSumsThatDoNotFit(t *testing.T) {
	for _, x := range []struct{ adv, from int64 }{
		{greatest, fit}, {greatest, 1}, {greatest, 0}, {least, -fit}, {least, -1}, {least, 0}, {1 - greatest, -fit}, {least, 1 - fit},
		{fit, fit}, {fit, 1}, {-fit, -fit}, {-fit, -1}, {1, fit}, {-1, -fit}, {fit + 1, 0}, {-fit - 1, 0},
	} {
		expectStep(t, char(x.adv), x.from, 0, api.ErrOver)
		expect(t, []api.Cell{char(x.adv)}, nil, x.from, nil, api.ErrOver)
		expect(t, []api.Cell{char(0), char(x.adv), char(0)}, nil, x.from, nil, api.ErrOver)
	}
	expectStep(t, char(greatest), greatest, 0, api.ErrOver)
	expectStep(t, char(least), least, 0, api.ErrOver) // it would wrap round to 0
	expectStep(t, char(fit), greatest, 0, api.ErrOver)
}

// P12.1, P12.2: tabs whose stop is beyond 2^62, and those whose stop is just there.
func TestStopsThatDoNotFit(t *testing.T) {
	for _, x := range []struct{ adv, from int64 }{
		{1, fit}, {8, fit}, {3, fit - 1}, {fit, fit}, {fit + 1, 0}, {greatest, 0}, {greatest, fit}, {fit - 1, fit - 1}, {fit - 1, fit}, {1<<61 + 1, 1<<61 + 1},
	} {
		expectStep(t, tab(x.adv), x.from, 0, api.ErrOver)
		expect(t, []api.Cell{tab(x.adv)}, nil, x.from, nil, api.ErrOver)
		expect(t, []api.Cell{tab(0), tab(x.adv), char(-8)}, nil, x.from, nil, api.ErrOver)
	}
	for _, x := range []struct{ adv, from int64 }{{1, fit - 1}, {8, fit - 1}, {8, fit - 8}, {fit, 0}, {fit, fit - 1}, {1 << 61, 1 << 61}} {
		expectStep(t, tab(x.adv), x.from, fit, api.OK)
		expect(t, []api.Cell{tab(x.adv)}, nil, x.from, []int64{x.from, fit}, api.OK)
	}
}

// P12.2: what is skipped adds nothing that could not fit.
func TestSkippedFit(t *testing.T) {
	for _, c := range []api.Cell{char(1), char(greatest), char(least), tab(1), tab(8), tab(greatest)} {
		for _, x := range []int64{-fit, 0, fit} {
			expect(t, []api.Cell{c}, []uint8{api.RoGone}, x, []int64{x, x}, api.OK)
			expect(t, []api.Cell{c, char(0), c}, []uint8{api.RoGone, api.RoHang, api.RoGone}, x, []int64{x, x, x, x}, api.OK)
		}
	}
	expect(t, []api.Cell{char(1), char(1)}, []uint8{api.RoGone}, fit, nil, api.ErrOver)
	expect(t, []api.Cell{char(1), char(1)}, []uint8{api.RoHang, api.RoGone}, fit, nil, api.ErrOver)
}

// P12.1: at a cell that is not a tab only the pen after it must fit; at a tab, also of an Adv of 0, the one before it, too.
func TestPenBeforeStep(t *testing.T) {
	for _, x := range []struct{ adv, from, want int64 }{
		{-1, fit + 1, fit}, {-8, fit + 1, fit - 7}, {1, -fit - 1, -fit}, {8, -fit - 1, 7 - fit},
		{-fit, greatest, fit - 1}, {fit, least, -fit}, {least, greatest, -1}, {greatest, least, -1}, {least, fit, -fit}, {greatest, -fit, fit - 1},
	} {
		for kind := range 256 {
			if uint8(kind) != api.CeTab {
				expectStep(t, cell(uint8(kind), x.adv), x.from, x.want, api.OK)
			}
		}
	}
	for _, adv := range []int64{0, 1, 8, fit, greatest} {
		for _, from := range []int64{fit + 1, greatest, -fit - 1, -fit - 2, -greatest, least} {
			expectStep(t, tab(adv), from, 0, api.ErrOver)
		}
	}
	for _, from := range []int64{fit + 1, fit + 8, greatest, -fit - 1, -fit - 8, least} {
		expectStep(t, char(0), from, 0, api.ErrOver)
	}
}

// spoil writes into all of a list, and of its spare capacity.
func spoil[T any](l []T, x T) {
	l = l[:cap(l)]
	for i := range l {
		l[i] = x
	}
}

// P12.2, R5: arguments are not changed, nor what is after them in their memory, which does not count.
func TestMemory(t *testing.T) {
	all := []api.Cell{char(5), tab(8), char(-3), tab(4), char(7), tab(0)}
	kinds := []uint8{api.RoKept, api.RoGone, api.RoHang, api.RoKept, api.RoGone, api.RoKept}
	for n := range len(all) + 1 {
		for m := range len(kinds) + 1 {
			for _, x := range []int64{0, fit - 4, fit + 1} {
				l := append(slices.Clone(all[:n]), tab(-1), char(fit), char(fit))
				roles := append(slices.Clone(kinds[:m]), slices.Repeat([]uint8{api.RoGone}, len(all))...)
				wasL, wasRoles := slices.Clone(l), slices.Clone(roles)
				want, e := pensOf(slices.Clone(all[:n]), slices.Clone(kinds[:m]), x)
				expect(t, l[:n], roles[:m], x, want, e)
				pens, _ := tabs.Pens(l[:n], roles[:m], x)
				spoil(pens, -7)
				if !slices.Equal(l, wasL) || !slices.Equal(roles, wasRoles) {
					t.Errorf("%v, %v became %v, %v", wasL, wasRoles, l, roles)
				}
				expect(t, l[:n], roles[:m], x, want, e)
			}
		}
	}
}

// P12.2, R5: an answer does not change with its arguments, nor with other answers.
func TestAnswersStay(t *testing.T) {
	l, roles := []api.Cell{char(5), tab(8), char(5), char(5)}, []uint8{0, 0, api.RoGone}
	pens, e := tabs.Pens(l, roles, 1)
	for range 3 {
		other, _ := tabs.Pens(l, roles, 1)
		spoil(other, -7)
		short, _ := tabs.Pens(nil, nil, 1)
		spoil(short, -7)
	}
	spoil(l, tab(-1))
	spoil(roles, 9)
	if want := []int64{1, 6, 8, 8, 13}; e != api.OK || !slices.Equal(pens, want) {
		t.Errorf("%v, %d", pens, e)
	}
	expect(t, nil, nil, 1, []int64{1}, api.OK)
	expect(t, l, roles, 1, nil, api.ErrArg)
}
