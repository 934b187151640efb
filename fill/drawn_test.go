package fill_test

import (
	"math/rand/v2"
	"slices"
	"testing"

	"stickful/api"
	"stickful/fill"
	"stickful/trim"
)

// source draws the same rows in each run.
func source() *rand.Rand { return rand.New(rand.NewPCG(14, 140)) }

// drawnNumber is a small one mostly, above 0 more often than below it, or, seldom, one that is near where pens end.
func drawnNumber(r *rand.Rand) int64 {
	switch r.IntN(120) {
	case 0:
		return r.Int64() >> r.IntN(63)
	case 1:
		return -r.Int64() >> r.IntN(63)
	case 2:
		return fit - r.Int64N(20)
	case 3:
		return r.Int64N(20) - fit
	}
	return r.Int64N(30) - 6
}

// drawnCell is of these Kinds mostly; a tab is seldom not valid. One in so many is Soft, and one Emerg.
func drawnCell(r *rand.Rand, soft, emerg int, kinds ...uint8) api.Cell {
	c := api.Cell{Kind: uint8(r.IntN(int(api.CeClose) + 3)), Node: r.IntN(9), Char: r.IntN(9) - 1, Adv: drawnNumber(r), Soft: r.IntN(soft) == 0, Emerg: r.IntN(emerg) == 0}
	if r.IntN(6) > 0 {
		c.Kind = kinds[r.IntN(len(kinds))]
	}
	if c.Kind == api.CeTab && r.IntN(40) > 0 {
		c.Adv = max(c.Adv, -(c.Adv + 1)) // as many of them are 0 as are 1
	}
	return c
}

// drawnRow is up to 24 cells of text, with white space, edges and forced breaks among them.
func drawnRow(r *rand.Rand) []api.Cell {
	soft, emerg := 1+r.IntN(8), 1+r.IntN(8)
	l := make([]api.Cell, r.IntN(25))
	for i := range l {
		l[i] = drawnCell(r, soft, emerg, api.CeChar, api.CeChar, api.CeChar, api.CeSpace, api.CeSpace, api.CeHang, api.CeOpen, api.CeClose)
	}
	if r.IntN(4) == 0 { // what closes after a forced break is seldom otherwise
		l = append(l, drawnCell(r, soft, emerg, api.CeForced))
		for range r.IntN(4) {
			l = append(l, drawnCell(r, soft, emerg, api.CeClose))
		}
	}
	return l
}

// drawnRoom is seldom not valid, or begins where pens end.
func drawnRoom(r *rand.Rand) api.Room {
	room := api.Room{Width: r.Int64N(90), Start: drawnNumber(r)}
	switch r.IntN(40) {
	case 0:
		room.Width = -1 - r.Int64N(9)
	case 1:
		room.Width = r.Int64() >> r.IntN(63)
	}
	return room
}

// drawn shows rows, each with two rooms.
func drawn(count int, show func(l []api.Cell, first, rest api.Room)) {
	r := source()
	for range count {
		l := drawnRow(r)
		show(l, drawnRoom(r), drawnRoom(r))
	}
}

// drawnLines shows rows that have lines, with the two rooms and the lines that the program returns.
func drawnLines(count int, show func(l []api.Cell, first, rest api.Room, lines []api.Line)) {
	drawn(count, func(l []api.Cell, first, rest api.Room) {
		if lines, e := fill.Lines(l, first, rest); e == api.OK {
			show(l, first, rest, lines)
		}
	})
}

// roomOf is the room of the line i.
func roomOf(i int, first, rest api.Room) api.Room {
	if i == 0 {
		return first
	}
	return rest
}

// P14.1, P14.2: drawn rows.
func TestDrawnRows(t *testing.T) {
	drawn(40000, func(l []api.Cell, first, rest api.Room) {
		if !slices.ContainsFunc(l, notValid) {
			checkEnds(t, l)
		}
		checkLines(t, l, first, rest)
	})
}

// P14.1 to P14.5: what is drawn has all that the other tests rely on.
func TestDrawnRowsHaveAll(t *testing.T) {
	errors := make(map[api.Errno]int)
	var fitting, emergency, tooLong, tooLongEmergency, forced, empty, first int
	drawn(40000, func(l []api.Cell, one, rest api.Room) {
		all, e := linesOf(l, one, rest)
		errors[e]++
		for i, line := range all {
			room := roomOf(i, one, rest)
			need, _ := trim.Fits(l[line.From:line.To], room.Start)
			soft, _ := endsOf(l, line.From)
			isSoft, fits := slices.Contains(soft, line.To), need <= room.Width
			for _, x := range []struct {
				is    bool
				count *int
			}{{isSoft && fits, &fitting}, {!isSoft && fits, &emergency}, {isSoft && !fits, &tooLong}, {!isSoft && !fits, &tooLongEmergency}, {line.Forced, &forced}, {line.From == line.To, &empty}, {len(all) > 1 && i == 0, &first}} {
				if x.is {
					*x.count++
				}
			}
		}
	})
	if counts := []int{fitting, emergency, tooLong, tooLongEmergency, forced, empty, first, errors[api.OK], errors[api.ErrArg], errors[api.ErrOver]}; slices.Min(counts) < 500 {
		t.Errorf("lines of soft ends: %d that fit, %d that do not; of emergency ends: %d, %d; %d forced, %d empty, %d first ones of several; errors %v", fitting, tooLong, emergency, tooLongEmergency, forced, empty, first, errors)
	}
}

// P14.3: lines follow one another, contain all cells, and end at ends; what is in them.
func TestLinesFollow(t *testing.T) {
	drawnLines(40000, func(l []api.Cell, _, _ api.Room, lines []api.Line) {
		at := 0
		for i, line := range lines {
			soft, emergency, e := fill.Ends(l, line.From)
			last := i == len(lines)-1
			if line.From != at || line.To < at || e != api.OK {
				t.Fatalf("%v: %v after %d, %d", l, line, at, e)
			}
			if !last && !slices.Contains(soft, line.To) && !slices.Contains(emergency, line.To) {
				t.Fatalf("%v: %v ends at no end: %v, %v", l, line, soft, emergency)
			}
			if !last && !line.Forced && trim.Blank(l[line.From:line.To]) {
				t.Fatalf("%v: %v has nothing that is not removed", l, line)
			}
			at = line.To
		}
		if at != len(l) {
			t.Fatalf("%v: %v", l, lines)
		}
	})
}

// P14.4: a line that does not fit has no earlier end; one that does is not followed by a soft end that fits.
func TestLinesAreFull(t *testing.T) {
	drawnLines(40000, func(l []api.Cell, first, rest api.Room, lines []api.Line) {
		for i, line := range lines {
			room := roomOf(i, first, rest)
			soft, emergency, _ := fill.Ends(l, line.From)
			need, e := trim.Fits(l[line.From:line.To], room.Start)
			if e != api.OK {
				t.Fatalf("%v: %v is too far", l, line)
			}
			if need > room.Width {
				if ends := slices.Concat(soft, emergency); slices.Min(ends) < line.To {
					t.Fatalf("%v: %v does not fit, and has an earlier end: %v", l, line, ends)
				}
				continue
			}
			if line.Forced || i == len(lines)-1 {
				continue
			}
			next := slices.IndexFunc(soft, func(end int) bool { return end > line.To })
			if next < 0 {
				t.Fatalf("%v: %v, but there is no soft end after it: %v", l, line, soft)
			}
			if more, e := trim.Fits(l[line.From:soft[next]], room.Start); e != api.OK || more <= room.Width {
				t.Fatalf("%v: %v, but up to %d it goes %d, %d", l, line, soft[next], more, e)
			}
		}
	})
}

// P14.5: without Soft and Emerg cells there is one line more than forced breaks, in rooms of any Width.
func TestForcedAlone(t *testing.T) {
	show := func(l []api.Cell, first, rest api.Room) {
		breaks := 0
		plain := slices.Clone(l)
		for i := range plain {
			plain[i].Soft, plain[i].Emerg = false, false
			if plain[i].Kind == api.CeForced {
				breaks++
			}
		}
		if got, e := fill.Lines(plain, first, rest); e == api.OK && len(got) != breaks+1 {
			t.Fatalf("%v: %d forced breaks, lines %v", plain, breaks, got)
		}
	}
	drawn(40000, show)
	lists(row("cskf"), 6, func(l []api.Cell) { show(l, api.Room{}, api.Room{Width: 9}) })
}

// P14.5: with a greater Width the line from a place on is not shorter.
func TestWider(t *testing.T) {
	r := source()
	drawn(4000, func(l []api.Cell, room, _ api.Room) {
		for from := range len(l) + 1 {
			before := 0
			for room.Width = 0; room.Width < 99; room.Width += 1 + r.Int64N(9) {
				line, e := fill.One(l, from, room)
				if e != api.OK {
					break
				}
				if line.To < before {
					t.Fatalf("%v from %d: up to %d in %d, but up to %d before", l, from, line.To, room.Width, before)
				}
				before = line.To
			}
		}
	})
}

// P14.2, P14.3: a line depends on the cells from where it begins on alone.
func TestCellsBefore(t *testing.T) {
	drawn(20000, func(l []api.Cell, room, _ api.Room) {
		for from := range len(l) + 1 {
			want, e := fill.One(l[from:], 0, room)
			if slices.ContainsFunc(l[:from], notValid) {
				continue
			}
			if e == api.OK {
				want.From, want.To = want.From+from, want.To+from
			}
			expectOne(t, l, from, room, want, e)
		}
	})
}
