package fill_test

import (
	"slices"
	"testing"

	"stickful/api"
	"stickful/fill"
	"stickful/trim"
)

// The chapter's words, read one by one; what it takes from layer 13 is asked there, of each beginning of a line anew.

// lastOf is the last end from a place on, and whether it is forced.
func lastOf(l []api.Cell, from int) (int, bool) {
	for i := from; i < len(l); i++ {
		if l[i].Kind != api.CeForced {
			continue
		}
		for i++; i < len(l) && l[i].Kind == api.CeClose; i++ {
		}
		return i, true
	}
	return len(l), false
}

// endsOf are the soft ends and the emergency ends from a place on.
func endsOf(l []api.Cell, from int) (soft, emergency []int) {
	last, _ := lastOf(l, from)
	for place := from + 1; place < last; place++ {
		if trim.Blank(l[from:place]) {
			continue
		}
		if l[place].Soft {
			soft = append(soft, place)
		}
		if l[place].Emerg {
			emergency = append(emergency, place)
		}
	}
	return append(soft, last), emergency
}

// howMany of the ends fit, from the first one on.
func howMany(l []api.Cell, from int, ends []int, r api.Room) (int, api.Errno) {
	for i, end := range ends {
		need, e := trim.Fits(l[from:end], r.Start)
		if e != api.OK {
			return 0, e
		}
		if need > r.Width {
			return i, api.OK
		}
	}
	return len(ends), api.OK
}

// upTo is where a line ends that has these ends.
func upTo(l []api.Cell, from int, soft, emergency []int, r api.Room) (int, api.Errno) {
	n, e := howMany(l, from, soft, r)
	if e != api.OK || n > 0 {
		return soft[max(n, 1)-1], e
	}
	emergency = slices.DeleteFunc(slices.Clone(emergency), func(end int) bool { return end >= soft[0] })
	if len(emergency) == 0 {
		return soft[0], api.OK
	}
	n, e = howMany(l, from, emergency, r)
	return emergency[max(n, 1)-1], e
}

// notValid: a cell that no valid row has.
func notValid(c api.Cell) bool { return c.Kind == api.CeTab && c.Adv < 0 }

// oneOf is the line from a place on.
func oneOf(l []api.Cell, from int, r api.Room) (api.Line, api.Errno) {
	if slices.ContainsFunc(l, notValid) || from < 0 || from > len(l) || r.Width < 0 {
		return api.Line{}, api.ErrArg
	}
	soft, emergency := endsOf(l, from)
	to, e := upTo(l, from, soft, emergency, r)
	if e != api.OK {
		return api.Line{}, e
	}
	last, forced := lastOf(l, from)
	return api.Line{From: from, To: to, Forced: forced && to == last}, api.OK
}

// linesOf are all lines.
func linesOf(l []api.Cell, first, rest api.Room) ([]api.Line, api.Errno) {
	if slices.ContainsFunc(l, notValid) || first.Width < 0 || rest.Width < 0 {
		return nil, api.ErrArg
	}
	line, e := oneOf(l, 0, first)
	lines := []api.Line{line}
	for e == api.OK && (line.Forced || line.To < len(l)) {
		line, e = oneOf(l, line.To, rest)
		lines = append(lines, line)
	}
	if e != api.OK {
		return nil, e
	}
	return lines, api.OK
}

// expectEnds holds what Ends answers against what is wanted.
func expectEnds(t *testing.T, l []api.Cell, from int, soft, emergency []int, e api.Errno) {
	t.Helper()
	gotSoft, gotEmergency, gotE := fill.Ends(l, from)
	if !slices.Equal(gotSoft, soft) || !slices.Equal(gotEmergency, emergency) || gotE != e {
		t.Errorf("Ends(%v, %d) is %v, %v, %d, want %v, %v, %d", l, from, gotSoft, gotEmergency, gotE, soft, emergency, e)
	}
}

// expectOne holds what One answers against what is wanted.
func expectOne(t *testing.T, l []api.Cell, from int, r api.Room, want api.Line, e api.Errno) {
	t.Helper()
	if got, gotE := fill.One(l, from, r); got != want || gotE != e {
		t.Errorf("One(%v, %d, %v) is %v, %d, want %v, %d", l, from, r, got, gotE, want, e)
	}
}

// expectLines holds what Lines answers against what is wanted.
func expectLines(t *testing.T, l []api.Cell, first, rest api.Room, want []api.Line, e api.Errno) {
	t.Helper()
	if got, gotE := fill.Lines(l, first, rest); !slices.Equal(got, want) || gotE != e {
		t.Errorf("Lines(%v, %v, %v) is %v, %d, want %v, %d", l, first, rest, got, gotE, want, e)
	}
}

// expectErrors expects the same error of One, at a place, and of Lines.
func expectErrors(t *testing.T, l []api.Cell, from int, r api.Room, e api.Errno) {
	t.Helper()
	expectOne(t, l, from, r, api.Line{}, e)
	expectLines(t, l, r, r, nil, e)
}

// checkEnds holds the ends from each place on against the words.
func checkEnds(t *testing.T, l []api.Cell) {
	t.Helper()
	for from := range len(l) + 1 {
		soft, emergency := endsOf(l, from)
		expectEnds(t, l, from, soft, emergency, api.OK)
	}
}

// checkLines holds the line from each place on, and all lines, against the words.
func checkLines(t *testing.T, l []api.Cell, first, rest api.Room) {
	t.Helper()
	for from := range len(l) + 1 {
		want, e := oneOf(l, from, first)
		expectOne(t, l, from, first, want, e)
	}
	want, e := linesOf(l, first, rest)
	expectLines(t, l, first, rest, want, e)
}

// lists shows each list of up to most of these.
func lists[T any](of []T, most int, show func([]T)) {
	var l []T
	var extend func()
	extend = func() {
		show(l)
		if len(l) == most {
			return
		}
		for _, x := range of {
			l = append(l, x)
			extend()
			l = l[:len(l)-1]
		}
	}
	extend()
}

// P14.1: the ends at each place of all short rows, of cells with each mark, and of those that may be blank.
func TestEndsOfAllShortRows(t *testing.T) {
	lists(row("c .c ,c .,c s .s ,o .,k k f"), 5, func(l []api.Cell) { checkEnds(t, l) })
}

// P14.1: every Kind that a number can be, with each mark, at each place of rows.
func TestEndsOfEveryKind(t *testing.T) {
	for kind := range 256 {
		for _, s := range []string{"", ".,c", "c.,c", "s.,o.,c", "c.,f.,k.,c", "f.,s.,f.,k.,k"} {
			for at := range len(row(s)) + 1 {
				for marks := range 4 {
					checkEnds(t, slices.Insert(row(s), at, api.Cell{Kind: uint8(kind), Adv: 6, Soft: marks&1 > 0, Emerg: marks&2 > 0}))
				}
			}
		}
	}
}

// P14.2: the lines of all short rows, in rooms of a few Widths and Starts.
func TestLinesOfAllShortRows(t *testing.T) {
	lists(row("c .c ,c .,h .s f .k"), 5, func(l []api.Cell) {
		checkLines(t, l, api.Room{Width: 10}, api.Room{Width: 6, Start: 1})
		checkLines(t, l, api.Room{}, api.Room{Width: 15, Start: -2})
	})
}

// P14.2: a few of every Kind that is named, and of one above them.
func TestLinesOfAllKinds(t *testing.T) {
	var some []api.Cell
	for kind := range api.CeClose + 2 {
		some = append(some, api.Cell{Kind: kind, Adv: int64(kind) + 1, Soft: kind%2 == 0, Emerg: true})
	}
	lists(some, 4, func(l []api.Cell) { checkLines(t, l, api.Room{Width: 8, Start: -1}, api.Room{Width: 5}) })
}

// P14.2: short rows of tabs, of cells that go back, and of numbers that may be too far.
func TestLinesOfAllShortRowsOfNumbers(t *testing.T) {
	some := []api.Cell{
		{Adv: fit, Soft: true}, {Adv: fit, Emerg: true}, {Adv: -4, Emerg: true}, {Kind: api.CeTab, Adv: 8, Soft: true}, {Kind: api.CeTab, Adv: -1},
		{Kind: api.CeSpace, Adv: 3, Soft: true}, {Kind: api.CeHang, Adv: -fit, Emerg: true}, {Kind: api.CeClose, Adv: -2, Soft: true},
	}
	lists(some, 4, func(l []api.Cell) {
		for _, r := range []api.Room{{Width: 0, Start: -fit - 1}, {Width: 5, Start: -fit}, {Width: 7}, {Width: fit, Start: 1}, {Width: greatest, Start: fit}, {Width: 3, Start: fit + 1}} {
			checkLines(t, l, r, api.Room{Width: 4})
			checkLines(t, l, api.Room{Width: 9}, r)
		}
	})
}
