package tabs_test

import (
	"math/big"
	"slices"
	"testing"

	"stickful/api"
	"stickful/tabs"
)

// The chapter's words, read one by one, in numbers of any length.

// notValid: a cell that no valid row has.
func notValid(c api.Cell) bool { return c.Kind == api.CeTab && c.Adv < 0 }

// roleOf is the role of the cell i: RoKept if it has none.
func roleOf(roles []uint8, i int) uint8 {
	if i < len(roles) {
		return roles[i]
	}
	return api.RoKept
}

// penAfter is the pen after c, if pen is before it.
func penAfter(c api.Cell, pen *big.Int) *big.Int {
	adv := big.NewInt(c.Adv)
	switch {
	case c.Kind != api.CeTab:
		return adv.Add(pen, adv)
	case c.Adv == 0:
		return pen
	}
	multiple := new(big.Int).Div(pen, adv) // Euclidean: the floor, as Adv is above 0
	return multiple.Add(multiple, big.NewInt(1)).Mul(multiple, adv)
}

// fits reports whether the pen's magnitude is at most 2^62.
func fits(pen *big.Int) bool { return pen.CmpAbs(big.NewInt(fit)) <= 0 }

// pensOf are the pens of l from x on, or the error.
func pensOf(l []api.Cell, roles []uint8, x int64) ([]int64, api.Errno) {
	if slices.ContainsFunc(l, notValid) {
		return nil, api.ErrArg
	}
	pen := big.NewInt(x)
	all := []*big.Int{pen}
	for i, c := range l {
		if roleOf(roles, i) != api.RoGone {
			pen = penAfter(c, pen)
		}
		all = append(all, pen)
	}
	var numbers []int64
	for _, pen := range all {
		if !fits(pen) {
			return nil, api.ErrOver
		}
		numbers = append(numbers, pen.Int64())
	}
	return numbers, api.OK
}

// stepOf is the pen after c, if it is x before it, or the error.
func stepOf(c api.Cell, x int64) (int64, api.Errno) {
	if notValid(c) {
		return 0, api.ErrArg
	}
	after := penAfter(c, big.NewInt(x))
	if !fits(after) || c.Kind == api.CeTab && !fits(big.NewInt(x)) {
		return 0, api.ErrOver
	}
	return after.Int64(), api.OK
}

// expect holds what Pens and End answer against what is wanted.
func expect(t *testing.T, l []api.Cell, roles []uint8, x int64, want []int64, e api.Errno) {
	t.Helper()
	if got, gotE := tabs.Pens(l, roles, x); gotE != e || !slices.Equal(got, want) || e != api.OK && got != nil {
		t.Errorf("Pens(%v, %v, %d) is %v, %d, want %v, %d", l, roles, x, got, gotE, want, e)
	}
	var last int64
	if e == api.OK {
		last = want[len(want)-1]
	}
	if got, gotE := tabs.End(l, roles, x); gotE != e || got != last {
		t.Errorf("End(%v, %v, %d) is %d, %d, want %d, %d", l, roles, x, got, gotE, last, e)
	}
}

// expectStep holds what Step answers against what is wanted.
func expectStep(t *testing.T, c api.Cell, x, want int64, e api.Errno) {
	t.Helper()
	if got, gotE := tabs.Step(c, x); gotE != e || got != want {
		t.Errorf("Step(%v, %d) is %d, %d, want %d, %d", c, x, got, gotE, want, e)
	}
}

// check holds what Pens and End answer against the words.
func check(t *testing.T, l []api.Cell, roles []uint8, x int64) {
	t.Helper()
	want, e := pensOf(l, roles, x)
	expect(t, l, roles, x, want, e)
}

// checkStep holds what Step answers against the words.
func checkStep(t *testing.T, c api.Cell, x int64) {
	t.Helper()
	want, e := stepOf(c, x)
	expectStep(t, c, x, want, e)
}

// numbers are those at which something may change, each with its neighbours, and small ones of either sign.
func numbers() []int64 {
	l := []int64{least, least + 1, greatest - 1, greatest}
	for _, n := range []int64{0, 3, 5, 8, 16, 64, 1 << 30, 1 << 32, 1 << 61, fit} {
		for d := int64(-1); d <= 1; d++ {
			l = append(l, n+d, -n+d)
		}
	}
	slices.Sort(l)
	return slices.Compact(l)
}

// P12.1, P12.2: every Kind that a number can be.
func TestAllKinds(t *testing.T) {
	for kind := range 256 {
		for _, adv := range []int64{least, -fit - 1, -fit, -8, -1, 0, 1, 8, fit, fit + 1, greatest} {
			c := cell(uint8(kind), adv)
			for _, x := range []int64{least, -fit - 8, -fit - 1, -fit, -8, -1, 0, 5, 8, fit - 1, fit, fit + 1, fit + 8, greatest} {
				checkStep(t, c, x)
				check(t, []api.Cell{c}, nil, x)
			}
		}
	}
}

// P12.1, P12.2: every pair of numbers that matter.
func TestAllNumbers(t *testing.T) {
	for _, x := range numbers() {
		for _, adv := range numbers() {
			for _, kind := range []uint8{api.CeChar, api.CeTab, api.CeClose, 255} {
				c := cell(kind, adv)
				checkStep(t, c, x)
				check(t, []api.Cell{c}, nil, x)
				check(t, []api.Cell{c}, []uint8{api.RoGone}, x)
				check(t, []api.Cell{c, cell(api.CeChar, -adv)}, nil, x)
			}
		}
	}
}

// P12.1, P12.2: tabs of each small number, from each small number.
func TestSmallTabs(t *testing.T) {
	for adv := int64(-2); adv <= 17; adv++ {
		for x := int64(-40); x <= 40; x++ {
			checkStep(t, tab(adv), x)
			check(t, []api.Cell{tab(adv), char(1), tab(adv)}, nil, x)
		}
	}
}

// lists shows each list of up to most of these.
func lists[T any](of []T, most int, show func([]T)) {
	var l []T
	var extend func()
	extend = func() {
		show(l)
		if len(l) == most {
			return
		}
		for _, x := range of {
			l = append(l, x)
			extend()
			l = l[:len(l)-1]
		}
	}
	extend()
}

// P12.2: all short rows of a few cells, with all short lists of roles.
func TestAllShortRows(t *testing.T) {
	some := []api.Cell{char(0), char(3), char(-4), tab(0), tab(1), tab(4), tab(-1)}
	lists(some, 3, func(l []api.Cell) {
		lists([]uint8{api.RoKept, api.RoGone, api.RoHang}, 4, func(roles []uint8) {
			check(t, l, roles, -2)
			check(t, l, roles, 4)
		})
	})
}
