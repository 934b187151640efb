package fill_test

import (
	"math"
	"slices"
	"testing"

	"stickful/api"
	"stickful/fill"
)

const (
	fit      = int64(1) << 62
	greatest = int64(math.MaxInt64)
	least    = int64(math.MinInt64)
)

// cellOf is a cell by its letter: a character, a space, what hangs, a space that is kept, an atom and a Kind that has no name go 5, edges 2, a tab 8; a forced break goes 0, and an edge that goes back -7.
func cellOf(letter rune) api.Cell {
	kinds := map[rune]api.Cell{
		'c': {Adv: 5}, 's': {Kind: api.CeSpace, Adv: 5}, 'h': {Kind: api.CeHang, Adv: 5}, 'p': {Kind: api.CeKeep, Adv: 5}, 'a': {Kind: api.CeAtom, Adv: 5}, 'x': {Kind: api.CeClose + 1, Adv: 5},
		'o': {Kind: api.CeOpen, Adv: 2}, 'k': {Kind: api.CeClose, Adv: 2}, 'b': {Kind: api.CeClose, Adv: -7}, 'f': {Kind: api.CeForced}, 't': {Kind: api.CeTab, Adv: 8},
	}
	c, is := kinds[letter]
	if !is {
		panic(letter)
	}
	return c
}

// row is cells by letters; a dot marks the next one as Soft, a comma as Emerg. Blanks are nothing.
func row(letters string) []api.Cell {
	var l []api.Cell
	var marks api.Cell
	for _, letter := range letters {
		switch letter {
		case ' ':
		case '.':
			marks.Soft = true
		case ',':
			marks.Emerg = true
		default:
			c := cellOf(letter)
			c.Soft, c.Emerg = marks.Soft, marks.Emerg
			l, marks = append(l, c), api.Cell{}
		}
	}
	return l
}

// lines are those that end at these places, of which the forced ones are below 0.
func lines(ends ...int) []api.Line {
	var l []api.Line
	from := 0
	for _, end := range ends {
		to := max(end, -end)
		l = append(l, api.Line{From: from, To: to, Forced: end < 0})
		from = to
	}
	return l
}

// P14.2: the chapter's examples.
func TestExamples(t *testing.T) {
	for _, x := range []struct {
		s      string
		widths []int64
		ends   []int
	}{
		{"ccs.cc", []int64{12, 10, 9}, []int{3, 5}},
		{"ccs.cc", []int64{25}, []int{5}},
		{"c,c,c", []int64{12}, []int{2, 3}},
		{"c,c,c", []int64{4}, []int{1, 2, 3}},
		{"s.cc", []int64{4}, []int{3}},
		{"cfcf", []int64{99}, []int{-2, -4, 4}},
		{"", []int64{0}, []int{0}},
	} {
		for _, width := range x.widths {
			r := api.Room{Width: width}
			expectLines(t, row(x.s), r, r, lines(x.ends...), api.OK)
		}
	}
}

// P14.1: rows of no cell, of one, and of many; each place that an end is or is not at.
func TestEnds(t *testing.T) {
	for _, x := range []struct {
		s               string
		from            int
		soft, emergency []int
	}{
		{"", 0, []int{0}, nil}, {"c", 0, []int{1}, nil}, {"c", 1, []int{1}, nil}, {".,c", 0, []int{1}, nil}, {"s", 0, []int{1}, nil}, {"f", 0, []int{1}, nil}, {"f", 1, []int{1}, nil},

		// cells that are Soft, Emerg, both, none
		{"c.c,c.,cc", 0, []int{1, 3, 5}, []int{2, 3}}, {"c.c,c.,cc", 1, []int{3, 5}, []int{2, 3}}, {"c.c,c.,cc", 2, []int{3, 5}, []int{3}}, {"c.c,c.,cc", 3, []int{5}, nil},
		{"c.c,c.,cc", 4, []int{5}, nil}, {"c.c,c.,cc", 5, []int{5}, nil}, {"ccccc", 0, []int{5}, nil},
		{"c.,s.,h.,p.,t.,a.,o.,k.,x", 0, []int{1, 2, 3, 4, 5, 6, 7, 8, 9}, []int{1, 2, 3, 4, 5, 6, 7, 8}},

		// the last end: no forced break, one, several; what closes directly after it, and later
		{"cfc", 0, []int{2}, nil}, {"cfc", 1, []int{2}, nil}, {"cfc", 2, []int{3}, nil}, {"cfkc", 0, []int{3}, nil}, {"cfkkkc", 0, []int{5}, nil}, {"cfkkk", 0, []int{5}, nil},
		{"cfckc", 0, []int{2}, nil}, {"cfokc", 0, []int{2}, nil}, {"cfskc", 0, []int{2}, nil}, {"cfkokc", 0, []int{3}, nil}, {"ckfkfk", 0, []int{4}, nil}, {"ckfkfk", 3, []int{6}, nil},
		{"ffkf", 0, []int{1}, nil}, {"ffkf", 1, []int{3}, nil}, {"ffkf", 2, []int{4}, nil}, {"ffkf", 3, []int{4}, nil}, {"ffkf", 4, []int{4}, nil}, {"fkkc", 1, []int{4}, nil}, {"fkkc", 2, []int{4}, nil},

		// marks at the last end, at a forced break and after it
		{"cc.,fc", 0, []int{2, 3}, []int{2}}, {"ccf.,c", 0, []int{3}, nil}, {"ccfk.,c", 0, []int{4}, nil}, {"ccf.,kkc", 0, []int{3, 5}, []int{3}}, {"ccfk.,kc", 0, []int{4, 5}, []int{4}},
		{"f.,kkc", 0, []int{3}, nil}, {"sf.,kkc", 0, []int{4}, nil}, {"c.cf.c.c", 0, []int{1, 3}, nil}, {"c.cf.c.c", 3, []int{4, 5}, nil}, {"c,cf,c,c", 0, []int{3}, []int{1}}, {"c,cf,c,c", 2, []int{3}, nil},

		// places up to which the cells are blank
		{"s.,c", 0, []int{2}, nil}, {"o.,c", 0, []int{2}, nil}, {"sok.,s.,o.,c.,c", 0, []int{6, 7}, []int{6}}, {"so.,c.,c", 0, []int{3, 4}, []int{3}}, {".,c.,c", 0, []int{1, 2}, []int{1}},
		{"c.,s.,s.,c", 0, []int{1, 2, 3, 4}, []int{1, 2, 3}}, {"c.,s.,s.,c", 1, []int{4}, nil}, {"c.,s.,s.,c", 2, []int{4}, nil}, {"h.,h.,c", 0, []int{1, 2, 3}, []int{1, 2}}, {"s.,h.,c", 0, []int{2, 3}, []int{2}},
		{"s.,s.,s", 0, []int{3}, nil}, {"o.,s.,f.,k.,k.,c", 0, []int{5}, nil}, {"p.,c", 0, []int{1, 2}, []int{1}}, {"t.,c", 0, []int{1, 2}, []int{1}}, {"a.,c", 0, []int{1, 2}, []int{1}}, {"x.,c", 0, []int{1, 2}, []int{1}},
	} {
		expectEnds(t, row(x.s), x.from, x.soft, x.emergency, api.OK)
	}
	expectEnds(t, []api.Cell{}, 0, []int{0}, nil, api.OK)
}

// P14.2: where the line from a place on ends, by which ends fit.
func TestOne(t *testing.T) {
	for _, x := range []struct {
		s            string
		from         int
		width, start int64
		to           int
	}{
		// all soft ends fit, some do, the first one does not
		{"c.c.c", 0, 15, 0, 3}, {"c.c.c", 0, 14, 0, 2}, {"c.c.c", 0, 10, 0, 2}, {"c.c.c", 0, 9, 0, 1}, {"c.c.c", 0, 5, 0, 1}, {"c.c.c", 0, 4, 0, 1}, {"c.c.c", 0, 0, 0, 1},
		{"c.c.c", 1, 10, 0, 3}, {"c.c.c", 1, 9, 0, 2}, {"c.c.c", 2, 0, 0, 3}, {"c.c.c", 3, 0, 0, 3}, {"cc.cc.cc", 1, 15, 0, 4},

		// the first soft one does not, and emergency ends before it do; none of these does; there are none
		{"c,c,c.c", 0, 15, 0, 3}, {"c,c,c.c", 0, 14, 0, 2}, {"c,c,c.c", 0, 9, 0, 1}, {"c,c,c.c", 0, 4, 0, 1}, {"cc,c.c", 0, 9, 0, 2}, {"ccc.c,c", 0, 9, 0, 3}, {"ccc.,c,c", 0, 9, 0, 3},
		{"ccc,c", 0, 0, 0, 3}, {"cccc", 0, 0, 0, 4}, {"c,c.c,c", 0, 10, 0, 2}, {"c,c.c,c", 0, 19, 0, 2},

		// a soft end that fits counts more than emergency ends after it
		{"c.c,c,c", 0, 19, 0, 1}, {"c.c,c,c", 0, 20, 0, 4}, {"c.c,c,c", 1, 14, 0, 3}, {"s.c,c.c", 0, 9, 0, 2},

		// a later end that would fit where an earlier one does not
		{"ccc.b.c", 0, 10, 0, 3}, {"c.cc.b.c", 0, 10, 0, 1}, {"ccc,b.c", 0, 10, 0, 4}, {"ccc,b,c.c", 0, 10, 0, 3}, {"c,cc,b,c.c", 0, 10, 0, 1}, {"cccb", 0, 8, 0, 4}, {"ccc.b", 0, 8, 0, 3},
		{"cs.k.s", 0, 5, 0, 2}, {"ch.o.b.s", 0, 5, 0, 2}, {"ch.o.b.s", 0, 7, 0, 5},

		// spaces and what hangs at the end
		{"ccs.c", 0, 10, 0, 3}, {"ccs.c", 0, 9, 0, 3}, {"ccss.c", 0, 10, 0, 4}, {"cch.c", 0, 10, 0, 3}, {"cchh.c", 0, 10, 0, 4}, {"cchsk.c", 0, 12, 0, 5}, {"cs.cs.cs.c", 0, 5, 0, 2}, {"cs.cs.cs.c", 0, 15, 0, 4},
		{"ch.ch.ch.c", 0, 14, 0, 2}, {"ch.ch.ch.c", 0, 15, 0, 4}, {"ch.ch.s.h.h", 0, 20, 0, 7}, {"csh.c", 0, 9, 0, 3}, {"csh.c", 0, 10, 0, 3}, {"c.s.h.c", 0, 9, 0, 2}, {"c.s.h.c", 0, 10, 0, 3}, {"c.h.s.c", 0, 5, 0, 3}, {"cp.c", 0, 9, 0, 2},

		// blank beginnings
		{"s.s.c.c", 0, 0, 0, 3}, {"s.s.c.c", 0, 10, 0, 4}, {"so.c.c", 0, 7, 0, 3}, {"so.c.c", 0, 6, 0, 3}, {"s,s,c,c", 0, 0, 0, 3}, {"o.k.s.o", 0, 0, 0, 4},

		// where the room starts
		{"c.c.c", 0, 10, 1, 1}, {"c.c.c", 0, 10, 5, 1}, {"c.c.c", 0, 10, 6, 1}, {"c.c.c", 0, 10, -1, 2}, {"c.c.c", 0, 10, -5, 3}, {"c.c.c", 0, 0, -10, 2}, {"c,c,c", 0, 0, -10, 2}, {"c.c.c", 0, 99, 100, 1}, {"c.c", 2, 0, 9, 2},

		// tabs
		{"ct.c", 0, 12, 0, 2}, {"ct.c", 0, 13, 0, 3}, {"ct.c", 0, 16, 4, 2}, {"ct.c", 0, 21, 4, 3}, {"t.t.t", 0, 16, 0, 2}, {"t.t.t", 0, 16, -1, 3}, {"t.t.t", 0, 16, 7, 2}, {"c,t,t.c", 0, 16, 0, 3},
	} {
		expectOne(t, row(x.s), x.from, api.Room{Width: x.width, Start: x.start}, api.Line{From: x.from, To: x.to}, api.OK)
	}
}

// P14.2: a line is forced if it ends at a last end that is, not at an end before it, nor where the cells end.
func TestForced(t *testing.T) {
	for _, x := range []struct {
		s      string
		from   int
		width  int64
		to     int
		forced bool
	}{
		{"cf", 0, 5, 2, true}, {"cf", 0, 4, 2, true}, {"cf", 1, 0, 2, true}, {"cf", 2, 0, 2, false}, {"cfc", 0, 99, 2, true}, {"cfc", 2, 5, 3, false}, {"ff", 0, 0, 1, true}, {"ff", 1, 0, 2, true}, {"kf", 0, 0, 2, true}, {"sf", 0, 0, 2, true},
		{"cfkk", 0, 9, 4, true}, {"cfkk", 0, 8, 4, true}, {"cfkk", 1, 0, 4, true}, {"cfkk", 2, 9, 4, false}, {"cfkk", 4, 0, 4, false}, {"ccfk,c", 0, 9, 4, true},

		// ends before the forced one
		{"c.ccf", 0, 9, 1, false}, {"c.ccf", 0, 15, 4, true}, {"c.ccf", 1, 9, 4, true}, {"c,ccf", 0, 9, 1, false}, {"c,ccf", 0, 15, 4, true}, {"c,cfk,c", 0, 11, 1, false}, {"c,cfk,c", 0, 12, 4, true}, {"c.fk", 0, 6, 1, false}, {"c.fk", 0, 7, 3, true},

		// ends between a forced break and the end that it forces
		{"ccf.k", 0, 11, 3, false}, {"ccf.k", 0, 12, 4, true}, {"ccf.k", 0, 0, 3, false}, {"ccf,k", 0, 11, 3, false}, {"ccf,k", 0, 12, 4, true}, {"cf.k.k", 0, 8, 3, false}, {"cf.k.kf", 2, 9, 5, true}, {"f.k", 0, 0, 2, true},
	} {
		expectOne(t, row(x.s), x.from, api.Room{Width: x.width}, api.Line{From: x.from, To: x.to, Forced: x.forced}, api.OK)
	}
}

// P14.2: all lines, in two rooms.
func TestLines(t *testing.T) {
	narrow, wide, indented := api.Room{Width: 5}, api.Room{Width: 15}, api.Room{Width: 15, Start: 6}
	for _, x := range []struct {
		s           string
		first, rest api.Room
		ends        []int
	}{
		{"", narrow, wide, []int{0}}, {"c", narrow, wide, []int{1}}, {"ccc", api.Room{}, api.Room{}, []int{3}},
		{"c.c.c.c.c.c", narrow, narrow, []int{1, 2, 3, 4, 5, 6}}, {"c.c.c.c.c.c", narrow, wide, []int{1, 4, 6}}, {"c.c.c.c.c.c", wide, narrow, []int{3, 4, 5, 6}}, {"c.c.c.c.c.c", wide, wide, []int{3, 6}},
		{"c.c.c.c.c.c", indented, wide, []int{1, 4, 6}}, {"c.c.c.c.c.c", wide, indented, []int{3, 4, 5, 6}}, {"c.c.c.c.c.c", indented, indented, []int{1, 2, 3, 4, 5, 6}},
		{"c.c.c.c.c.c", api.Room{Width: 15, Start: -15}, wide, []int{6}}, {"c.c.c.c.c.c", wide, api.Room{Start: -10}, []int{3, 5, 6}},
		{"c,c,c,c.c,c", wide, narrow, []int{3, 4, 5, 6}}, {"c,c,c,c.c,c", narrow, wide, []int{1, 4, 6}}, {"cs.cs.cs.c", wide, narrow, []int{4, 6, 7}}, {"c.s.c.s.c", narrow, narrow, []int{2, 4, 5}},

		// forced lines: one in the middle, at the end, several in a row, nothing else
		{"cfc", wide, wide, []int{-2, 3}}, {"cf", wide, wide, []int{-2, 2}}, {"cfkk", wide, wide, []int{-4, 4}}, {"cfkkc", wide, wide, []int{-4, 5}}, {"cffc", narrow, narrow, []int{-2, -3, 4}}, {"cfkfkfk", narrow, narrow, []int{-3, -5, -7, 7}},
		{"f", api.Room{}, api.Room{}, []int{-1, 1}}, {"fff", api.Room{}, api.Room{}, []int{-1, -2, -3, 3}}, {"c.cf.c.c", narrow, wide, []int{1, -3, 5}}, {"c.cf.c.c", wide, narrow, []int{-3, 4, 5}}, {"cfs.s", narrow, narrow, []int{-2, 4}},
		{"ccf.k.kc.c", api.Room{Width: 10}, wide, []int{3, 7}}, {"ccf.k.kc.c", api.Room{Width: 10}, narrow, []int{3, 6, 7}}, {"ccf.k.kfc", wide, narrow, []int{-5, -6, 7}}, {"ccf.k.kfc", api.Room{Width: 12}, narrow, []int{4, -6, 7}}, {"c.fc", narrow, narrow, []int{-2, 3}},
	} {
		expectLines(t, row(x.s), x.first, x.rest, lines(x.ends...), api.OK)
	}
	expectLines(t, []api.Cell{}, api.Room{}, api.Room{}, lines(0), api.OK)
}

// P14.1, P14.2: of a cell only Kind, Adv and the marks count.
func TestOtherFields(t *testing.T) {
	l := row("cs.co,cfkc.h.c")
	for _, c := range []api.Cell{{}, {Node: 7, Char: 3}, {Node: -1, Char: -1}, {Node: math.MinInt, Char: math.MaxInt}} {
		other := slices.Clone(l)
		for i := range other {
			other[i].Node, other[i].Char = c.Node, c.Char
		}
		expectEnds(t, other, 0, []int{2, 7}, []int{4}, api.OK)
		expectLines(t, other, api.Room{Width: 14}, api.Room{Width: 9}, lines(2, 4, -7, 9, 10), api.OK)
	}
}

// P14.2, R1: long rows do not take long, whatever their ends are, in rooms of any Width.
func TestLongRows(t *testing.T) {
	const many = 1 << 17
	for _, x := range []struct {
		s     string
		width int64
		count int
	}{
		{".c", 0, many}, {".c", 100, (many + 19) / 20}, {".c", fit, 1}, {",c", 0, many}, {",c", 100, (many + 19) / 20}, {",c", fit, 1}, {".,c", 7, many}, {"c", 7, 1},
		{".p.t.a", 30, many / 2}, {",t", 8, many}, {",t", 80, (many + 9) / 10}, {"c.h.s", 20, many / 2}, {".h", 0, 1}, {".,s", 0, 1}, {".,o", 9, 1}, {",ccccs", 3, many}, {".ccccs", 45, (many + 1) / 2},
		{"f", 0, many + 1}, {".k", 5, 1}, {",o,c,b", 7, 1}, {",o,c,c,b", 7, many}, {",c,c,b", 0, 2*many - 3},
	} {
		l := slices.Repeat(row(x.s), many)
		got, e := fill.Lines(l, api.Room{Width: x.width}, api.Room{Width: x.width})
		if e != api.OK || len(got) != x.count || got[len(got)-1].To != len(l) {
			t.Errorf("%q, %d: %d lines, want %d, %d", x.s, x.width, len(got), x.count, e)
		}
	}
	l := slices.Concat(row("cf"), slices.Repeat(row(".k"), many), row("c"))
	expectOne(t, l, 0, api.Room{Width: fit}, api.Line{To: many + 2, Forced: true}, api.OK)
	expectOne(t, l, 0, api.Room{}, api.Line{To: 2}, api.OK)
}
