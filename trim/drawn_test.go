package trim_test

import (
	"math/rand/v2"
	"slices"
	"testing"

	"stickful/api"
	"stickful/trim"
)

// source draws the same lines in each run.
func source() *rand.Rand { return rand.New(rand.NewPCG(13, 130)) }

// drawnNumber is a small one mostly, of either sign, or one that is near where pens end.
func drawnNumber(r *rand.Rand) int64 {
	switch r.IntN(60) {
	case 0:
		return r.Int64() >> r.IntN(63)
	case 1:
		return -r.Int64() >> r.IntN(63)
	case 2:
		return fit - r.Int64N(20)
	case 3:
		return r.Int64N(20) - fit
	}
	return r.Int64N(101) - 40
}

// drawnCell is of one of these Kinds mostly; a tab is seldom not valid.
func drawnCell(r *rand.Rand, kinds ...uint8) api.Cell {
	c := cell(uint8(r.IntN(int(api.CeClose)+3)), drawnNumber(r))
	if r.IntN(6) > 0 {
		c.Kind = kinds[r.IntN(len(kinds))]
	}
	if c.Kind == api.CeTab && r.IntN(20) > 0 {
		c.Adv = max(c.Adv, -(c.Adv + 1)) // as many of them are 0 as are 1
	}
	c.Node, c.Char, c.Soft, c.Emerg = r.IntN(9), r.IntN(9)-1, r.IntN(2) == 0, r.IntN(2) == 0
	return c
}

// drawnEdge is one of the three.
func drawnEdge(r *rand.Rand) api.Cell {
	return cell([]uint8{api.CeOpen, api.CeClose, api.CeForced}[r.IntN(3)], drawnNumber(r))
}

// drawnLine has white space and edges at its ends, and all else between them, each of them up to 6 cells.
func drawnLine(r *rand.Rand) []api.Cell {
	var l []api.Cell
	for part := range 3 {
		for range r.IntN(7) {
			if part == 1 {
				l = append(l, drawnCell(r, api.CeChar, api.CeSpace, api.CeHang, api.CeTab))
			} else {
				l = append(l, drawnCell(r, api.CeSpace, api.CeSpace, api.CeHang, api.CeOpen, api.CeClose, api.CeForced))
			}
		}
	}
	return l
}

// P13.1, P13.2: drawn lines.
func TestDrawnLines(t *testing.T) {
	r := source()
	for range 60000 {
		l := drawnLine(r)
		check(t, l, drawnNumber(r))
	}
}

// P13.1 to P13.4: what is drawn has all that the other tests rely on.
func TestDrawnLinesHaveAll(t *testing.T) {
	r := source()
	var kinds [api.CeClose + 3]int
	var roles [3]int
	var keptSpaces, keptHangs, blank, differ, overInOne int
	errors := make(map[api.Errno]int)
	for range 60000 {
		l := drawnLine(r)
		x := drawnNumber(r)
		for i, role := range rolesOf(l) {
			kinds[l[i].Kind]++
			roles[role]++
			switch {
			case role == api.RoKept && l[i].Kind == api.CeSpace:
				keptSpaces++
			case role == api.RoKept && l[i].Kind == api.CeHang:
				keptHangs++
			}
		}
		if isBlank(l) {
			blank++
		}
		fits, e := fitsOf(l, x)
		goes, f := goesOf(l, x)
		errors[e]++
		switch {
		case e != f:
			overInOne++
		case fits != goes:
			differ++
		}
	}
	counts := slices.Concat(kinds[:], roles[:], []int{keptSpaces, keptHangs, blank, differ, overInOne, errors[api.OK], errors[api.ErrArg], errors[api.ErrOver]})
	if slices.Min(counts) < 500 {
		t.Errorf("kinds %v, roles %v, kept: %d spaces, %d that hang, %d blank, %d of two extents, %d over in one, errors %v", kinds, roles, keptSpaces, keptHangs, blank, differ, overInOne, errors)
	}
}

// remains is the line without the cells that the program removes.
func remains(l []api.Cell) []api.Cell {
	var rest []api.Cell
	for i, role := range trim.Roles(l) {
		if role != api.RoGone {
			rest = append(rest, l[i])
		}
	}
	return rest
}

// keptRoles are the roles of the cells that the program does not remove.
func keptRoles(l []api.Cell) []uint8 {
	return slices.DeleteFunc(trim.Roles(l), func(role uint8) bool { return role == api.RoGone })
}

// checkRemains holds that what remains of a line remains of it again, with the same roles and extents, and has no space at an end.
func checkRemains(t *testing.T, l []api.Cell) {
	t.Helper()
	rest := remains(l)
	if again := remains(rest); !slices.Equal(again, rest) {
		t.Fatalf("of %v remains %v, and of that %v", l, rest, again)
	}
	if got, want := trim.Roles(rest), keptRoles(l); !slices.Equal(got, want) {
		t.Fatalf("of %v remains %v of the roles %v, want %v", l, rest, got, want)
	}
	expectRoles(t, rest, rolesOf(rest), trim.Blank(l))
	inner := slices.DeleteFunc(slices.Clone(rest), isEdge)
	if len(inner) == 0 {
		return
	}
	if first := inner[0]; first.Kind == api.CeSpace {
		t.Errorf("of %v remains %v, which begins with a space", l, rest)
	}
	if last := inner[len(inner)-1]; last.Kind == api.CeSpace {
		t.Errorf("of %v remains %v, which ends with a space", l, rest)
	}
}

// P13.3: what remains of all short lines, and of drawn ones.
func TestRemains(t *testing.T) {
	lists(line("Shcok"), 6, func(l []api.Cell) { checkRemains(t, l) })
	r := source()
	for range 60000 {
		checkRemains(t, drawnLine(r))
	}
}

// P13.3: what must fit of a line, and its extent, are those of what remains, too.
func TestRemainsGoesAsFar(t *testing.T) {
	r := source()
	for range 30000 {
		l, x := drawnLine(r), drawnNumber(r)
		fits, e := trim.Fits(l, x)
		expectFits(t, remains(l), x, fits, e)
		goes, e := trim.Goes(l, x)
		expectGoes(t, remains(l), x, goes, e)
	}
}

// P13.3: lines of which it is easily seen what remains.
func TestWhatRemains(t *testing.T) {
	for _, x := range []struct{ s, rest string }{
		{"", ""}, {"SSS", ""}, {"SoSkS", "ok"}, {"ScS", "c"}, {"SoScScSk", "ocSck"}, {"cSh", "cSh"}, {"cShS", "cSh"}, {"SShSS", "h"}, {"hSch", "hSch"}, {"ShSc", "hSc"}, {"fSfcfSf", "ffcff"},
	} {
		if got := remains(line(x.s)); !slices.Equal(got, line(x.rest)) {
			t.Errorf("%q: %v", x.s, got)
		}
		checkRemains(t, line(x.s))
	}
}

// checkEdges holds that edges before a line, and after it, leave its roles as they are, and are kept.
func checkEdges(t *testing.T, l, before, after []api.Cell) {
	t.Helper()
	want := slices.Concat(make([]uint8, len(before)), trim.Roles(l), make([]uint8, len(after)))
	expectRoles(t, slices.Concat(before, l, after), want, trim.Blank(l))
}

// P13.4: each edge, before a line, after it, and at both ends, of all short lines and drawn ones.
func TestEdges(t *testing.T) {
	show := func(l []api.Cell) {
		for _, edge := range line("okf") {
			one := []api.Cell{edge}
			checkEdges(t, l, one, nil)
			checkEdges(t, l, nil, one)
			checkEdges(t, l, one, one)
		}
	}
	lists(line("Shcf"), 5, show)
	r := source()
	for range 30000 {
		show(drawnLine(r))
	}
}

// P13.4: several edges, of numbers of any sign.
func TestManyEdges(t *testing.T) {
	r := source()
	for range 30000 {
		var before, after []api.Cell
		for range r.IntN(4) {
			before = append(before, drawnEdge(r))
		}
		for range r.IntN(4) {
			after = append(after, drawnEdge(r))
		}
		checkEdges(t, drawnLine(r), before, after)
	}
}
