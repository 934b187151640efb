package trim_test

import (
	"math/big"
	"slices"
	"testing"

	"stickful/api"
	"stickful/trim"
)

// The chapter's words, and those of layer 12 that it relies on, read one by one, the pens in numbers of any length.

// isEdge: CeOpen, CeClose and CeForced are here edges.
func isEdge(c api.Cell) bool {
	return c.Kind == api.CeOpen || c.Kind == api.CeClose || c.Kind == api.CeForced
}

// only reports whether there are only edges, and cells of these Kinds.
func only(l []api.Cell, kinds ...uint8) bool {
	for _, c := range l {
		if !isEdge(c) && !slices.Contains(kinds, c.Kind) {
			return false
		}
	}
	return true
}

// roleOf is what happens to the cell i.
func roleOf(l []api.Cell, i int) uint8 {
	before, after := l[:i], l[i+1:]
	switch {
	case l[i].Kind == api.CeSpace && (only(before, api.CeSpace) || only(after, api.CeSpace)):
		return api.RoGone
	case l[i].Kind == api.CeHang && only(after, api.CeHang, api.CeSpace):
		return api.RoHang
	}
	return api.RoKept
}

// rolesOf is what happens to each cell.
func rolesOf(l []api.Cell) []uint8 {
	var roles []uint8
	for i := range l {
		roles = append(roles, roleOf(l, i))
	}
	return roles
}

// isBlank reports whether each cell is an edge, or removed.
func isBlank(l []api.Cell) bool {
	for i, c := range l {
		if !isEdge(c) && roleOf(l, i) != api.RoGone {
			return false
		}
	}
	return true
}

// penAfter is the pen after c, if pen is before it.
func penAfter(c api.Cell, pen *big.Int) *big.Int {
	adv := big.NewInt(c.Adv)
	switch {
	case c.Kind != api.CeTab:
		return adv.Add(pen, adv)
	case c.Adv == 0:
		return pen
	}
	multiple := new(big.Int).Div(pen, adv) // Euclidean: the floor, as Adv is above 0
	return multiple.Add(multiple, big.NewInt(1)).Mul(multiple, adv)
}

// notValid: a cell that no valid line has.
func notValid(c api.Cell) bool { return c.Kind == api.CeTab && c.Adv < 0 }

// lastPen is the last pen from x on, where the cells of the roles skipped are skipped, or the error.
func lastPen(l []api.Cell, x int64, skipped ...uint8) (int64, api.Errno) {
	if slices.ContainsFunc(l, notValid) {
		return 0, api.ErrArg
	}
	pen, most := big.NewInt(x), big.NewInt(fit)
	over := pen.CmpAbs(most) > 0
	for i, c := range l {
		if !slices.Contains(skipped, roleOf(l, i)) {
			pen = penAfter(c, pen)
		}
		over = over || pen.CmpAbs(most) > 0
	}
	if over {
		return 0, api.ErrOver
	}
	return pen.Int64(), api.OK
}

// fitsOf is what must fit of the line.
func fitsOf(l []api.Cell, x int64) (int64, api.Errno) { return lastPen(l, x, api.RoGone, api.RoHang) }

// goesOf is the line's extent.
func goesOf(l []api.Cell, x int64) (int64, api.Errno) { return lastPen(l, x, api.RoGone) }

// expectRoles holds what Roles and Blank answer against what is wanted.
func expectRoles(t *testing.T, l []api.Cell, roles []uint8, blank bool) {
	t.Helper()
	if got := trim.Roles(l); !slices.Equal(got, roles) {
		t.Errorf("Roles(%v) is %v, want %v", l, got, roles)
	}
	if got := trim.Blank(l); got != blank {
		t.Errorf("Blank(%v) is %v", l, got)
	}
}

// expectFits holds what Fits answers against what is wanted.
func expectFits(t *testing.T, l []api.Cell, x, want int64, e api.Errno) {
	t.Helper()
	if got, gotE := trim.Fits(l, x); got != want || gotE != e {
		t.Errorf("Fits(%v, %d) is %d, %d, want %d, %d", l, x, got, gotE, want, e)
	}
}

// expectGoes holds what Goes answers against what is wanted.
func expectGoes(t *testing.T, l []api.Cell, x, want int64, e api.Errno) {
	t.Helper()
	if got, gotE := trim.Goes(l, x); got != want || gotE != e {
		t.Errorf("Goes(%v, %d) is %d, %d, want %d, %d", l, x, got, gotE, want, e)
	}
}

// expectError expects the same error of Fits and Goes.
func expectError(t *testing.T, l []api.Cell, x int64, e api.Errno) {
	t.Helper()
	expectFits(t, l, x, 0, e)
	expectGoes(t, l, x, 0, e)
}

// check holds all that is answered of a line against the words.
func check(t *testing.T, l []api.Cell, from ...int64) {
	t.Helper()
	expectRoles(t, l, rolesOf(l), isBlank(l))
	for _, x := range from {
		want, e := fitsOf(l, x)
		expectFits(t, l, x, want, e)
		want, e = goesOf(l, x)
		expectGoes(t, l, x, want, e)
	}
}

// lists shows each list of up to most of these.
func lists[T any](of []T, most int, show func([]T)) {
	var l []T
	var extend func()
	extend = func() {
		show(l)
		if len(l) == most {
			return
		}
		for _, x := range of {
			l = append(l, x)
			extend()
			l = l[:len(l)-1]
		}
	}
	extend()
}

// P13.1, P13.2: spaces, hanging cells, edges and others, in every order.
func TestAllShortLines(t *testing.T) {
	lists(line("Shcokf"), 6, func(l []api.Cell) { check(t, l, 3) })
}

// P13.1, P13.2: a few of every Kind that is named, and of two above them.
func TestAllKindsInShortLines(t *testing.T) {
	var some []api.Cell
	for kind := range api.CeClose + 3 {
		some = append(some, cell(kind, int64(kind)+1))
	}
	lists(some, 4, func(l []api.Cell) { check(t, l, -2) })
}

// P13.1, P13.2: every Kind that a number can be, put at each place of lines.
func TestEveryKind(t *testing.T) {
	for kind := range 256 {
		for _, s := range []string{"", "c", "S", "h", "o", "SS", "hh", "ShS", "SoS", "ShcSh", "fSkhS", "SScSS", "oShSk"} {
			for at := range len(s) + 1 {
				check(t, slices.Insert(line(s), at, cell(uint8(kind), 6)), 1)
			}
		}
	}
}

// P13.2: lines of tabs, of cells that go back, and of numbers that may not fit.
func TestAllShortLinesOfNumbers(t *testing.T) {
	some := []api.Cell{
		cell(api.CeChar, fit), cell(api.CeChar, -4), cell(api.CeTab, 8), cell(api.CeTab, -1),
		cell(api.CeSpace, 3), cell(api.CeHang, 5), cell(api.CeHang, -fit), cell(api.CeClose, -2),
	}
	lists(some, 4, func(l []api.Cell) { check(t, l, -fit-1, -fit, -1, 0, 7, fit, fit+1) })
}
