package fill_test

import (
	"slices"
	"testing"

	"stickful/api"
	"stickful/fill"
)

// belowZero are numbers that no tab, and no room, may have, and no place may be.
func belowZero() []int64 {
	return []int64{-1, -2, -8, -1 << 31, -1 << 32, -fit, -fit - 1, least + 1, least}
}

// P14.1, P14.2: places below 0, and above the number of cells.
func TestWrongPlaces(t *testing.T) {
	for _, s := range []string{"", "c", "f", "c.c", "cf", "s.c,cs.c,cfk.c"} {
		l := row(s)
		places := []int{len(l) + 1, len(l) + 2, int(fit), int(greatest)}
		for _, place := range belowZero() {
			places = append(places, int(place))
		}
		for _, place := range places {
			expectEnds(t, l, place, nil, nil, api.ErrArg)
			expectOne(t, l, place, api.Room{Width: 9}, api.Line{}, api.ErrArg)
		}
	}
}

// P14.1, P14.2: a tab that is not valid, at each place of rows, for each place from which a line is asked for.
func TestWrongTab(t *testing.T) {
	for _, adv := range belowZero() {
		for _, s := range []string{"", "c", "s", "f", "c.c", "cfcf", "s.c,cs.c,cfk.c"} {
			for at := range len(row(s)) + 1 {
				l := slices.Insert(row(s), at, api.Cell{Kind: api.CeTab, Adv: adv, Soft: true})
				for from := range len(l) + 1 {
					expectEnds(t, l, from, nil, nil, api.ErrArg)
					expectErrors(t, l, from, api.Room{}, api.ErrArg)
				}
				l[at].Kind = api.CeKeep
				checkEnds(t, l)
				checkLines(t, l, api.Room{}, api.Room{})
			}
		}
	}
}

// P14.1, P14.2: a tab of an Adv of 0 is valid.
func TestTabOfZero(t *testing.T) {
	l := []api.Cell{{Adv: 3}, {Kind: api.CeTab, Soft: true}, {Adv: 3, Soft: true}}
	expectEnds(t, l, 0, []int{1, 2, 3}, nil, api.OK)
	expectLines(t, l, api.Room{Width: 5}, api.Room{Width: 5}, lines(2, 3), api.OK)
}

// P14.2: a Width below 0, of One's room and of each of Lines' two, also where there is no line in it.
func TestWrongRooms(t *testing.T) {
	for _, width := range belowZero() {
		for _, s := range []string{"", "c", "f", "c.c", "cfkc"} {
			for _, start := range []int64{-5, 0, 5} {
				l, wrong, right := row(s), api.Room{Width: width, Start: start}, api.Room{Width: 99, Start: start}
				for from := range len(l) + 1 {
					expectOne(t, l, from, wrong, api.Line{}, api.ErrArg)
				}
				expectLines(t, l, wrong, right, nil, api.ErrArg)
				expectLines(t, l, right, wrong, nil, api.ErrArg)
				expectLines(t, l, wrong, wrong, nil, api.ErrArg)
				checkLines(t, l, right, api.Room{Start: start})
			}
		}
	}
}

// P14.1, P14.2: ErrArg comes before ErrOver, whatever is wrong, and wherever what is too far is.
func TestErrorsInOrder(t *testing.T) {
	far, wrong := api.Cell{Adv: fit + 1, Soft: true}, api.Cell{Kind: api.CeTab, Adv: -1}
	for _, l := range [][]api.Cell{{far, wrong}, {wrong, far}, {far, far, wrong}, {far, cellOf('f'), wrong}, {wrong}} {
		for _, start := range []int64{least, -fit - 1, 0, fit + 1, greatest} {
			expectErrors(t, l, 0, api.Room{Width: 9, Start: start}, api.ErrArg)
			expectErrors(t, l, 0, api.Room{Width: -9, Start: start}, api.ErrArg)
		}
	}
	for _, l := range [][]api.Cell{nil, {far}, {far, far}} {
		for _, start := range []int64{least, -fit - 1, fit + 1, greatest} {
			r := api.Room{Width: 9, Start: start}
			expectErrors(t, l, 0, r, api.ErrOver)
			expectOne(t, l, -1, r, api.Line{}, api.ErrArg)
			expectOne(t, l, len(l)+1, r, api.Line{}, api.ErrArg)
			expectOne(t, l, 0, api.Room{Width: -1, Start: start}, api.Line{}, api.ErrArg)
			expectLines(t, l, r, api.Room{Width: -1}, nil, api.ErrArg)
			expectLines(t, l, api.Room{Width: -1}, r, nil, api.ErrArg)
		}
	}
}

// P14.2: where a room starts, at 2^62 and just above it, on both sides, also where there are no cells, or all of them are removed.
func TestStarts(t *testing.T) {
	for _, l := range [][]api.Cell{nil, row("s"), row("ss.s"), row("h"), {{}}, {{}, {Soft: true}}} {
		for _, start := range []int64{-fit, 1 - fit, fit - 1, fit} {
			for _, width := range []int64{0, fit - 1, fit, greatest} {
				expectOne(t, l, len(l), api.Room{Width: width, Start: start}, lines(len(l), len(l))[1], api.OK)
				checkLines(t, l, api.Room{Width: width, Start: start}, api.Room{Width: width, Start: start})
			}
		}
		for _, start := range []int64{least, least + 1, -fit - 1, fit + 1, fit + 2, greatest} {
			for from := range len(l) + 1 {
				expectErrors(t, l, from, api.Room{Width: greatest, Start: start}, api.ErrOver)
			}
		}
	}
}

// P14.2: what must fit up to an end that is examined, at 2^62 and just above it, and at -2^62 and just below it.
func TestTooFar(t *testing.T) {
	for _, sign := range []int64{1, -1} {
		for _, kind := range []uint8{api.CeChar, api.CeKeep, api.CeAtom, api.CeOpen, api.CeClose, 255} {
			one := api.Cell{Kind: kind, Adv: sign, Soft: true}
			l := []api.Cell{{}, one}
			r := api.Room{Width: greatest, Start: sign * (fit - 1)}
			expectLines(t, l, r, r, lines(2), api.OK)
			expectErrors(t, append(l, one), 0, r, api.ErrOver)
			r.Start = sign * fit
			expectErrors(t, l, 0, r, api.ErrOver)
			expectErrors(t, append(l, api.Cell{Adv: -sign}), 0, r, api.ErrOver) // it is too far on the way alone
		}
	}
	l := []api.Cell{{Adv: fit}, {Adv: 1, Emerg: true}, {Adv: -1}}
	expectErrors(t, l, 0, api.Room{}, api.ErrOver) // the soft end is examined first
	expectOne(t, l, 1, api.Room{}, api.Line{From: 1, To: 3}, api.OK)
	expectErrors(t, []api.Cell{{Adv: 1}, {Kind: api.CeTab, Adv: greatest, Soft: true}}, 0, api.Room{Width: 1}, api.ErrOver)
}

// P14.2: several cells that are too far together, to and fro, in a room that is much too narrow for them.
func TestTooFarTogether(t *testing.T) {
	const half = fit / 2
	for _, x := range []struct {
		advs  []int64
		start int64
		e     api.Errno
	}{
		{[]int64{half}, half, api.OK}, {[]int64{half, half}, 0, api.OK}, {[]int64{half, half}, -half, api.OK}, {[]int64{half, half}, 1, api.ErrOver}, {[]int64{half, half}, half, api.ErrOver}, {[]int64{half, half, half}, -half, api.OK},
		{[]int64{half, half, 1, -half, -half}, 0, api.ErrOver}, {[]int64{-half, -half, half, half, 99}, 0, api.OK}, {[]int64{-half, -half, -1, half, half, 99}, 0, api.ErrOver}, {[]int64{-half, half, 99}, -half, api.OK}, {[]int64{-half, -1, half, half}, -half, api.ErrOver},
		{[]int64{half, greatest}, 0, api.ErrOver}, {[]int64{half, greatest, greatest}, 0, api.ErrOver}, {[]int64{-half, least, half}, 0, api.ErrOver},
	} {
		var l []api.Cell
		for _, adv := range x.advs {
			l = append(l, api.Cell{Adv: adv})
		}
		want := lines(len(l))
		if x.e != api.OK {
			want = nil
		}
		r := api.Room{Width: 9, Start: x.start}
		expectLines(t, l, r, r, want, x.e)
	}
}

// P14.2: what is removed, and what hangs, is not too far.
func TestSkippedIsNotTooFar(t *testing.T) {
	for _, adv := range []int64{1, fit, greatest, -1, -fit, least} {
		space, hang := api.Cell{Kind: api.CeSpace, Adv: adv, Soft: true, Emerg: true}, api.Cell{Kind: api.CeHang, Adv: adv, Soft: true, Emerg: true}
		for _, start := range []int64{-fit, fit} {
			r := api.Room{Width: greatest, Start: start}
			for _, l := range [][]api.Cell{{space}, {space, {}, space}, {space, space, {}}, {hang, hang}, {{}, hang}, {hang, space}, {{}, hang, space}} {
				expectLines(t, l, r, r, lines(len(l)), api.OK)
			}
			for _, l := range [][]api.Cell{{{}, space, {}}, {{}, space, hang}, {hang, {}}, {{}, hang, space, {}}} {
				checkLines(t, l, r, r)
			}
		}
		expectErrors(t, []api.Cell{{}, {Kind: api.CeSpace, Adv: fit + 1}, {Soft: true}}, 0, api.Room{Width: 9}, api.ErrOver)
	}
}

// P14.2: which ends are examined: soft ones up to the first that does not fit, and then emergency ones before the first of these in the same way. What is behind them may be too far.
func TestExamined(t *testing.T) {
	soft := func(adv int64) api.Cell { return api.Cell{Adv: adv, Soft: true} }
	emerg := func(adv int64) api.Cell { return api.Cell{Adv: adv, Emerg: true} }
	tooFar := fit + 1
	for _, x := range []struct {
		l     []api.Cell
		width int64
		to    int
		e     api.Errno
	}{
		{[]api.Cell{{Adv: 5}, soft(5), soft(tooFar)}, 5, 1, api.OK},
		{[]api.Cell{{Adv: 5}, soft(5), soft(tooFar)}, 4, 1, api.OK},
		{[]api.Cell{{Adv: 5}, soft(5), soft(tooFar)}, 10, 0, api.ErrOver},
		{[]api.Cell{{Adv: 5}, soft(tooFar)}, 5, 0, api.ErrOver},
		{[]api.Cell{{Adv: 5}, soft(tooFar)}, 4, 1, api.OK},
		{[]api.Cell{{Adv: 5}, soft(5), soft(fit - 10), soft(1)}, 10, 2, api.OK},
		{[]api.Cell{{Adv: 5}, soft(5), soft(fit - 10), soft(1)}, fit - 1, 2, api.OK},
		{[]api.Cell{{Adv: 5}, soft(5), soft(fit - 10), soft(1)}, fit, 0, api.ErrOver},
		{[]api.Cell{{Adv: 5}, emerg(5), emerg(tooFar), soft(5)}, 9, 0, api.ErrOver}, // the soft end is first
		{[]api.Cell{{Adv: 5}, emerg(5), soft(5), emerg(tooFar)}, 9, 1, api.OK},
		{[]api.Cell{{Adv: 5}, emerg(5), soft(5), emerg(tooFar)}, 10, 0, api.ErrOver},
		{[]api.Cell{{Adv: 5}, cellOf('f'), soft(tooFar)}, 99, 2, api.OK},
		{[]api.Cell{{Adv: 5}, cellOf('f'), {Kind: api.CeClose, Adv: tooFar}}, 99, 0, api.ErrOver},
	} {
		expectOne(t, x.l, 0, api.Room{Width: x.width}, api.Line{To: x.to, Forced: x.to > 0 && x.l[x.to-1].Kind == api.CeForced}, x.e)
		checkLines(t, x.l, api.Room{Width: x.width}, api.Room{Width: x.width})
	}
}

// P14.2: an emergency end is too far where the soft end after it is not, as the hanging cell before it goes back in the soft one alone: whether it is examined.
func TestEmergencyTooFar(t *testing.T) {
	l := []api.Cell{{Adv: fit - 4}, {Kind: api.CeHang, Adv: -5, Emerg: true}, {Kind: api.CeOpen, Adv: 5}, {Emerg: true}, {Adv: 2}, {Soft: true}}
	for _, x := range []struct {
		width int64
		to    int
		e     api.Errno
	}{
		{0, 1, api.OK}, {fit - 5, 1, api.OK}, {fit - 4, 0, api.ErrOver}, {fit - 3, 0, api.ErrOver}, {fit - 2, 6, api.OK}, {fit, 6, api.OK},
	} {
		expectOne(t, l, 0, api.Room{Width: x.width}, api.Line{To: x.to}, x.e)
	}
	l[1].Emerg = false
	expectOne(t, l, 0, api.Room{}, api.Line{}, api.ErrOver)
	l[3].Emerg = false
	expectOne(t, l, 0, api.Room{}, api.Line{To: 5}, api.OK)
}

// P14.2: a line that is too far is an error of all lines, whichever of them it is.
func TestLinesTooFar(t *testing.T) {
	r, over := api.Room{Width: 5}, api.Room{Width: 5, Start: fit - 4}
	for _, s := range []string{"c.c", "cfc", "ccc.c", "c,c", "c.c.c.c"} {
		expectLines(t, row(s), over, r, nil, api.ErrOver)
		expectLines(t, row(s), r, over, nil, api.ErrOver)
	}
	expectLines(t, row("c"), r, over, lines(1), api.OK) // no line is in the other room
	expectLines(t, nil, r, api.Room{Start: fit + 1}, lines(0), api.OK)
	expectLines(t, row("cf"), r, api.Room{Start: fit}, lines(-2, 2), api.OK)
	expectLines(t, row("cf"), r, api.Room{Start: fit + 1}, nil, api.ErrOver) // though the line is empty
	l := append(row("c.c.c.c"), api.Cell{Adv: fit + 1, Soft: true})
	expectLines(t, l, r, r, nil, api.ErrOver)
	expectOne(t, l, 2, r, api.Line{From: 2, To: 3}, api.OK)
}

// spoil writes into all of a list, and of its spare capacity.
func spoil[T any](l []T, x T) {
	l = l[:cap(l)]
	for i := range l {
		l[i] = x
	}
}

// P14.1, P14.2, R5: arguments are not changed, nor what is after them in their memory, which does not count.
func TestMemory(t *testing.T) {
	for _, s := range []string{"c.c.c,c,c.c", "cfkkcfk", "cs.chs.k", "s.s.c,f"} {
		cells := row(s)
		for n := range len(cells) + 1 {
			for _, after := range [][]api.Cell{row("kk.c"), row(",c.c"), row("fkk"), row("bbbbbb"), {{Kind: api.CeTab, Adv: -1}}, {{Adv: fit}, {Adv: fit}}} {
				all := append(cells[:n:n], after...)
				was := slices.Clone(all)
				room := api.Room{Width: 10}
				got, _ := fill.Lines(all[:n], room, room)
				spoil(got, api.Line{From: -1})
				soft, emergency, _ := fill.Ends(all[:n], 0)
				spoil(soft, -7)
				spoil(emergency, -7)
				checkEnds(t, all[:n])
				checkLines(t, all[:n], room, room)
				want, e := linesOf(slices.Clone(cells[:n]), room, room)
				expectLines(t, all[:n], room, room, want, e)
				if !slices.Equal(all, was) {
					t.Errorf("%v became %v", was, all)
				}
			}
		}
	}
}

// P14.1, P14.2, R5: answers do not change with their arguments, nor with other answers.
func TestAnswersStay(t *testing.T) {
	l := row("c.c,c.c,cf.c")
	soft, emergency, e := fill.Ends(l, 0)
	got, f := fill.Lines(l, api.Room{Width: 10}, api.Room{Width: 5})
	for range 3 {
		others, more, _ := fill.Ends(l, 0)
		spoil(others, -7)
		spoil(more, -7)
		all, _ := fill.Lines(l, api.Room{Width: 10}, api.Room{Width: 5})
		spoil(all, api.Line{From: -1})
	}
	spoil(soft[len(soft):], -7)
	spoil(l, api.Cell{Kind: api.CeTab, Adv: -1})
	if e != api.OK || !slices.Equal(soft, []int{1, 3, 6}) || !slices.Equal(emergency, []int{2, 4}) {
		t.Errorf("%v, %v, %d", soft, emergency, e)
	}
	if want := lines(1, 2, 3, 4, -6, 7); f != api.OK || !slices.Equal(got, want) {
		t.Errorf("%v, %d, want %v", got, f, want)
	}
	expectEnds(t, l, 0, nil, nil, api.ErrArg)
	expectErrors(t, l, 0, api.Room{}, api.ErrArg)
}
