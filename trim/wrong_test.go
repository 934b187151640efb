package trim_test

import (
	"slices"
	"testing"

	"stickful/api"
	"stickful/trim"
)

// belowZero are numbers that no tab may have.
func belowZero() []int64 {
	return []int64{-1, -2, -8, -1 << 31, -1 << 32, -fit, -fit - 1, least + 1, least}
}

// P13.2: a tab that is not valid, at each place of lines: of what is removed, what hangs, and what is kept.
func TestWrongTab(t *testing.T) {
	for _, adv := range belowZero() {
		for _, s := range []string{"", "c", "S", "h", "o", "f", "t", "ScS", "oSk", "hhh", "cShS", "ScthSk"} {
			for at := range len(s) + 1 {
				l := slices.Insert(line(s), at, cell(api.CeTab, adv))
				expectError(t, l, 0, api.ErrArg)
				expectRoles(t, l, rolesOf(l), false) // they have no errors
				l[at].Kind = api.CeKeep
				check(t, l, 0)
			}
		}
	}
}

// P13.2: ErrArg comes before ErrOver, wherever what does not fit is.
func TestErrorsInOrder(t *testing.T) {
	far, wrong := cell(api.CeChar, fit), cell(api.CeTab, -1)
	for _, adv := range belowZero() {
		wrong.Adv = adv
		for _, x := range []int64{least, -fit - 1, fit + 1, greatest} {
			for _, l := range [][]api.Cell{{wrong}, {cell(api.CeChar, 0), wrong}, {cell(api.CeSpace, 1), wrong}, {wrong, cell(api.CeHang, 1)}} {
				expectError(t, l, x, api.ErrArg)
			}
		}
		for _, l := range [][]api.Cell{{far, far, wrong}, {far, wrong, far}, {wrong, far, far}, {wrong, far, cell(api.CeHang, fit)}} {
			expectError(t, l, 0, api.ErrArg)
		}
	}
	for _, l := range [][]api.Cell{{far, far}, {far, cell(api.CeTab, 0), far}, {far, cell(api.CeTab, 8)}} {
		expectError(t, l, 0, api.ErrOver)
	}
}

// P13.2: the number that a line is read from, within 2^62 and just beyond, also where nothing is there, or all of it is skipped.
func TestFrom(t *testing.T) {
	for _, l := range [][]api.Cell{nil, line("S"), line("SSS"), line("SfS"), line("f"), {cell(api.CeChar, 0)}, {cell(api.CeSpace, greatest), cell(api.CeTab, 0), cell(api.CeSpace, least)}} {
		for _, x := range []int64{-fit, 1 - fit, -1, 0, fit - 1, fit} {
			expectFits(t, l, x, x, api.OK)
			expectGoes(t, l, x, x, api.OK)
		}
		for _, x := range []int64{least, least + 1, -fit - 2, -fit - 1, fit + 1, fit + 2, greatest} {
			expectError(t, l, x, api.ErrOver)
		}
	}
	expectError(t, []api.Cell{cell(api.CeChar, -1)}, fit+1, api.ErrOver) // though the last pen would fit
	expectError(t, []api.Cell{cell(api.CeChar, 1)}, -fit-1, api.ErrOver)
	expectError(t, []api.Cell{cell(api.CeHang, -1)}, fit+1, api.ErrOver)
}

// P13.2: pens at 2^62 and just above it, at -2^62 and just below it, within a line and at its end.
func TestPensThatDoNotFit(t *testing.T) {
	for _, sign := range []int64{1, -1} {
		for _, kind := range []uint8{api.CeChar, api.CeKeep, api.CeForced, api.CeAtom, api.CeOpen, api.CeClose, 255} {
			one := func(n int64) api.Cell { return cell(kind, sign*n) }
			for _, l := range [][]api.Cell{{one(1)}, {one(1), one(-1), one(1)}, {cell(api.CeSpace, 9), one(1), cell(api.CeSpace, 9)}} {
				expectFits(t, l, sign*(fit-1), sign*fit, api.OK)
				expectGoes(t, l, sign*(fit-1), sign*fit, api.OK)
				expectError(t, l, sign*fit, api.ErrOver)
			}
			expectError(t, []api.Cell{one(1), one(-1)}, sign*fit, api.ErrOver) // the last pen fits
			expectError(t, []api.Cell{one(fit), one(1), one(-fit)}, 0, api.ErrOver)
			expectError(t, []api.Cell{one(greatest)}, sign*greatest, api.ErrOver)
		}
	}
	expectError(t, []api.Cell{cell(api.CeTab, 8)}, fit, api.ErrOver)
	expectError(t, []api.Cell{cell(api.CeTab, 3)}, fit-1, api.ErrOver)
	expectError(t, []api.Cell{cell(api.CeTab, greatest)}, 0, api.ErrOver)
	expectFits(t, []api.Cell{cell(api.CeTab, 8)}, fit-1, fit, api.OK)
	expectGoes(t, []api.Cell{cell(api.CeTab, 8)}, fit-1, fit, api.OK)
}

// P13.2: what is removed adds nothing that could not fit.
func TestRemovedFits(t *testing.T) {
	for _, adv := range []int64{1, -1, fit, -fit, greatest, least} {
		space := cell(api.CeSpace, adv)
		for _, x := range []int64{-fit, 0, fit} {
			for _, l := range [][]api.Cell{{space}, {space, space}, {space, cell(api.CeChar, 0), space}, {space, cell(api.CeOpen, 0), space}} {
				expectFits(t, l, x, x, api.OK)
				expectGoes(t, l, x, x, api.OK)
			}
		}
	}
	kept := []api.Cell{cell(api.CeChar, 0), cell(api.CeSpace, 1), cell(api.CeChar, -1)}
	expectError(t, kept, fit, api.ErrOver)
}

// P13.2: a cell that hangs makes a pen in Goes that it does not make in Fits; either may fit alone.
func TestHangingThatDoesNotFit(t *testing.T) {
	for _, sign := range []int64{1, -1} {
		hang := cell(api.CeHang, sign)
		for _, l := range [][]api.Cell{{hang}, {cell(api.CeChar, 0), hang}, {hang, cell(api.CeSpace, sign)}, {hang, cell(api.CeClose, 0)}} {
			expectFits(t, l, sign*fit, sign*fit, api.OK)
			expectGoes(t, l, sign*fit, 0, api.ErrOver)
			expectGoes(t, l, sign*(fit-1), sign*fit, api.OK)
		}
		within := []api.Cell{hang, cell(api.CeClose, -sign)} // the last pen fits
		expectFits(t, within, sign*fit, sign*(fit-1), api.OK)
		expectGoes(t, within, sign*fit, 0, api.ErrOver)

		back := []api.Cell{cell(api.CeHang, -sign), cell(api.CeClose, sign)}
		expectFits(t, back, sign*fit, 0, api.ErrOver)
		expectGoes(t, back, sign*fit, sign*fit, api.OK)

		kept := []api.Cell{hang, cell(api.CeChar, -sign)} // it does not hang
		expectError(t, kept, sign*fit, api.ErrOver)
	}
}

// spoil writes into all of a list, and of its spare capacity.
func spoil[T any](l []T, x T) {
	l = l[:cap(l)]
	for i := range l {
		l[i] = x
	}
}

// P13.1, P13.2, R5: arguments are not changed, nor what is after them in their memory, which does not count.
func TestMemory(t *testing.T) {
	for _, s := range []string{"SoScScSk", "chhkSS", "hShSf", "SSSS"} {
		for n := range len(s) + 1 {
			for _, after := range [][]api.Cell{line("SSkh"), line("hc"), {cell(api.CeTab, -1)}, {cell(api.CeChar, fit), cell(api.CeChar, fit)}} {
				all := append(line(s)[:n:n], after...)
				was := slices.Clone(all)
				check(t, all[:n], 0)
				spoil(trim.Roles(all[:n]), 9)
				check(t, all[:n], 0)
				expectRoles(t, all[:n], rolesOf(line(s)[:n]), isBlank(line(s)[:n]))
				if !slices.Equal(all, was) {
					t.Errorf("%v became %v", was, all)
				}
			}
		}
	}
}

// P13.1, R5: an answer does not change with its argument, nor with other answers.
func TestAnswersStay(t *testing.T) {
	l := line("ScShS")
	got := trim.Roles(l)
	for range 3 {
		spoil(trim.Roles(l), 9)
		spoil(trim.Roles(nil), 9)
		spoil(trim.Roles(l[:2]), 9)
	}
	trim.Fits(l, 0) // what it skips besides is not in the roles
	spoil(l, cell(api.CeTab, -1))
	if !slices.Equal(got, roles("10021")) {
		t.Errorf("%v", got)
	}
	expectRoles(t, l, roles("00000"), false)
	expectError(t, l, 0, api.ErrArg)
	expectRoles(t, nil, nil, true)
}
