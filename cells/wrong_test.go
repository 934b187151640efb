package cells_test

import (
	"math"
	"slices"
	"testing"

	"stickful/api"
	"stickful/arena"
	"stickful/cells"
)

// none are numbers of nodes that are not among n.
func none(n int) []int {
	return []int{-1, n, n + 1, math.MinInt, math.MaxInt, -1 << 32, 1 << 32, math.MinInt32, math.MaxInt32}
}

// wantError expects an error of Cells, and nothing else.
func wantError(t *testing.T, g given, context int, want api.Errno) {
	t.Helper()
	if chars, row, e := cells.Cells(g.t, context, g.s, g.fonts, g.atoms); e != want || chars != nil || row != nil {
		t.Errorf("%v, %v, %d fonts, %v: Cells(%d) is %v, %v, %d, want %d", g.l, g.s, len(g.fonts), g.atoms, context, chars, row, e, want)
	}
}

// wantErrors expects it of Chars, too.
func wantErrors(t *testing.T, g given, context int, want api.Errno) {
	t.Helper()
	if chars, e := cells.Chars(g.t, context); e != want || chars != nil {
		t.Errorf("%v: Chars(%d) is %v, %d, want %d", g.l, context, chars, e, want)
	}
	wantError(t, g, context, want)
}

// wantRight expects no error.
func wantRight(t *testing.T, g given, context int) {
	t.Helper()
	if _, _, e := cells.Cells(g.t, context, g.s, g.fonts, g.atoms); e != api.OK {
		t.Errorf("%v, %v, %d fonts, %v: Cells(%d): %d", g.l, g.s, len(g.fonts), g.atoms, context, e)
	}
}

// P11.1, P11.3: contexts below 0, at and past the number of nodes.
func TestNoContext(t *testing.T) {
	for _, x := range []shape{root(), example(), nested()} {
		g := give(t, x.nodes())
		wantRight(t, g, 0)
		for _, context := range none(len(g.l)) {
			wantErrors(t, g, context, api.ErrNone)
		}
	}
}

// P11.1, P11.3: nodes of each kind as a context.
func TestKindsOfContexts(t *testing.T) {
	g := give(t, root(text(""), box(), ends(), block(), flex(block()), ruby(base(), note())).nodes())
	seen := make([]bool, api.NkNote+1)
	for n, x := range g.l {
		seen[x.Kind] = true
		if isInline(x.Kind) {
			wantRight(t, g, n)
			if _, e := cells.Chars(g.t, n); e != api.OK {
				t.Errorf("Chars(%d): %d", n, e)
			}
		} else {
			wantErrors(t, g, n, api.ErrArg)
		}
	}
	if slices.Contains(seen, false) {
		t.Error(seen)
	}
	for n, want := range []api.Errno{api.OK, api.ErrArg, api.ErrArg, api.ErrArg, api.OK, api.ErrArg, api.OK, api.OK, api.OK, api.OK, api.ErrNone} {
		if _, e := cells.Chars(g.t, n); e != want {
			t.Errorf("Chars(%d): %d, want %d", n, e, want)
		}
	}
}

// P11.3: as many styles, and atoms, as nodes, none too few, none too many.
func TestHowManyStylesAndAtoms(t *testing.T) {
	for _, x := range []shape{root(), root(text("a")), example()} {
		whole := give(t, x.nodes())
		n := len(whole.l)
		for styles := range n + 3 {
			for atoms := range n + 3 {
				g := whole
				g.s = append(slices.Clone(whole.s), whole.s[0], whole.s[0])[:styles]
				g.atoms = make([]int64, n+2)[:atoms]
				if styles == n && atoms == n {
					wantRight(t, g, 0)
				} else {
					wantError(t, g, 0, api.ErrArg)
				}
			}
		}
		g := whole
		g.s = nil
		wantError(t, g, 0, api.ErrArg)
		g = whole
		g.atoms = nil
		wantError(t, g, 0, api.ErrArg)
		g.s = nil
		wantError(t, g, 0, api.ErrArg)
	}
}

// P11.3: what is not valid of a style, at the first one, at the last one, and at one of another context, of a box, or of a text without characters.
func TestStyles(t *testing.T) {
	x := root(text(""), box(text("a\t").white(api.WhPre)), block(text("b")), text("")).nodes()
	for at := range x {
		for _, context := range []int{0, 4} {
			g := give(t, x)
			for white := range 256 {
				g.s[at].White = uint8(white)
				if white <= int(api.WhBreakSpaces) {
					wantRight(t, g, context)
				} else {
					wantError(t, g, context, api.ErrArg)
				}
			}
			g.s[at].White = 0
			for _, font := range []int{math.MinInt, -1 << 32, -1, 0, 1, 2, 3, 4, 63, 64, 1 << 32, math.MaxInt} {
				g.s[at].Font = font
				if 0 <= font && font < len(g.fonts) {
					wantRight(t, g, context)
				} else {
					wantError(t, g, context, api.ErrArg)
				}
			}
			g.s[at].Font = 0
			for _, tab := range []int{math.MinInt, -1 << 32, -1, 0, 1, 63, 64, 65, 1 << 32, 1<<32 + 8, math.MaxInt} {
				g.s[at].Tab = tab
				if 0 <= tab && tab <= api.MaxTab {
					wantRight(t, g, context)
				} else {
					wantError(t, g, context, api.ErrArg)
				}
			}
		}
	}
}

// P11.3: without fonts no style has one.
func TestNoFonts(t *testing.T) {
	for _, x := range []shape{root(), root(box()), root(text("a")), nested()} {
		for _, fonts := range [][]api.Font{nil, {}, even()[:0]} {
			g := give(t, x.nodes())
			g.fonts = fonts
			wantError(t, g, 0, api.ErrArg)
		}
	}
}

// P11.3: all other parts of a style may have any value.
func TestOtherPartsOfStyles(t *testing.T) {
	g := give(t, nested().nodes())
	for n := range g.s {
		g.s[n] = api.Style{Word: 255, Wrap: 255, Line: 255, Size: math.MinInt64, HKind: 255, Height: math.MaxInt64}
	}
	g.checkAll(t)
}

// P11.1, P11.3: several errors at once: no tree, then no node, then what is not valid.
func TestErrorsInOrder(t *testing.T) {
	g := give(t, example().nodes())
	wrong := []func(g *given){
		func(g *given) {},
		func(g *given) { g.s = g.s[1:] },
		func(g *given) { g.atoms = nil },
		func(g *given) { g.fonts = nil },
		func(g *given) { g.s[0].White = 99 },
		func(g *given) { g.s[len(g.s)-1].Tab = -1 },
		func(g *given) { g.s, g.atoms, g.fonts = nil, nil, nil },
	}
	for i, change := range wrong {
		h := g
		h.s = slices.Clone(g.s)
		change(&h)
		for _, context := range none(len(g.l)) {
			wantError(t, h, context, api.ErrNone)
		}
		for context := 1; context < len(g.l); context++ {
			wantError(t, h, context, api.ErrArg)
		}
		if i > 0 {
			wantError(t, h, 0, api.ErrArg)
		}
		for _, x := range []*arena.Tree{nil, {}} {
			h.t = x
			for _, context := range append(none(len(g.l)), 0, 1) {
				wantError(t, h, context, api.ErrNil)
			}
		}
	}
	g.check(t, 0)
}

// R5: arguments are not changed, nor what is after them in their memory, which does not count.
func TestMemory(t *testing.T) {
	g := give(t, nested().nodes())
	for n := range g.l {
		g.s[n].Wrap, g.s[n].Font = api.WrAnywhere, n%3
	}
	h := g
	h.s = append(slices.Clone(g.s), api.Style{White: 99}, api.Style{Font: -1})
	h.fonts = append(fonts(), api.Font{Other: -1}, api.Font{Ascent: 99999})
	h.atoms = append(slices.Clone(g.atoms), 1, 2)
	wasS, wasAtoms := slices.Clone(h.s), slices.Clone(h.atoms)
	part := h
	part.s, part.fonts, part.atoms = h.s[:len(g.l)], h.fonts[:3], h.atoms[:len(g.l)]
	for n, x := range g.l {
		if !isInline(x.Kind) {
			wantErrors(t, part, n, api.ErrArg)
			continue
		}
		part.check(t, n)
		chars, row := part.cells(t, n)
		wantChars, want := g.cells(t, n)
		if !slices.Equal(chars, wantChars) || !slices.Equal(row, want) {
			t.Errorf("%v, %v, want %v, %v", chars, row, wantChars, want)
		}
	}
	if !slices.Equal(h.s, wasS) || !slices.Equal(h.atoms, wasAtoms) {
		t.Errorf("%v, %v became %v, %v", wasS, wasAtoms, h.s, h.atoms)
	}
	for n, f := range fonts() {
		if got := h.fonts[n]; got.Other != f.Other || !slices.Equal(got.Ranges, f.Ranges) {
			t.Errorf("the font %d became %v", n, got)
		}
	}
	if h.fonts[3].Other != -1 || h.fonts[4].Ascent != 99999 {
		t.Errorf("the fonts became %v", h.fonts)
	}
}

// R5: rows are not changed by Rules, nor what is after them.
func TestMemoryOfRules(t *testing.T) {
	g := give(t, nested().nodes())
	all, _ := cells.Chars(g.t, 0)
	for n := range len(all) + 1 {
		l := append(slices.Clone(all[:n]), api.Char{Node: -1}, api.Char{Node: 99})
		was := slices.Clone(l)
		got, e := cells.Rules(g.t, l[:n])
		if e != api.OK || !slices.Equal(got, rulesOf(g.l, l[:n])) || !slices.Equal(l, was) {
			t.Errorf("Rules of %d of %v are %v, %d", n, l, got, e)
		}
	}
}

// spoil writes into all of an answer, and of its spare capacity.
func spoil[T any](l []T, x T) {
	l = l[:cap(l)]
	for i := range l {
		l[i] = x
	}
}

// R5: answers do not change with other answers, nor with the arguments.
func TestAnswersStay(t *testing.T) {
	g := give(t, nested().nodes())
	for range 2 {
		for context, x := range g.l {
			if !isInline(x.Kind) {
				continue
			}
			h := g
			h.s, h.fonts, h.atoms = slices.Clone(g.s), fonts(), slices.Clone(g.atoms)
			chars, row := h.cells(t, context)
			all, _ := cells.Chars(h.t, context)
			rules, _ := cells.Rules(h.t, all)
			for range 2 { // what is spoiled first is not what is held against the words
				otherChars, otherRow := h.cells(t, context)
				otherAll, _ := cells.Chars(h.t, context)
				otherRules, _ := cells.Rules(h.t, otherAll)
				spoil(otherChars, api.Char{Node: -7, Kind: 99})
				spoil(otherRow, api.Cell{Node: -7, Kind: 99})
				spoil(otherAll, api.Char{Node: -7, Kind: 99})
				spoil(otherRules, -7)
			}
			for _, f := range h.fonts {
				spoil(f.Ranges, api.Advance{To: math.MaxInt32, Adv: 9})
			}
			spoil(h.s, api.Style{White: 99})
			spoil(h.fonts, api.Font{})
			spoil(h.atoms, -9)
			wantChars, want := g.byWords(t, context)
			if !slices.Equal(chars, wantChars) || !slices.Equal(row, want) || !slices.Equal(all, charsOf(g.l, context)) || !slices.Equal(rules, rulesOf(g.l, all)) {
				t.Errorf("Cells(%d) became %v, %v; Chars %v; Rules %v", context, chars, row, all, rules)
			}
			g.check(t, context)
		}
	}
}
