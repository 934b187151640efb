package cells_test

import (
	"slices"
	"testing"

	"stickful/api"
	"stickful/cells"
	"stickful/chance"
	"stickful/font"
	"stickful/utf"
	"stickful/white"
)

// What follows finds a context's cells by the chapter's words, one after the other, in the list of nodes alone.

// isAbove reports whether up is above n.
func isAbove(l []api.Node, up, n int) bool {
	for n = l[n].Parent; n >= 0; n = l[n].Parent {
		if n == up {
			return true
		}
	}
	return false
}

// contextOf is the nearest node above n that has lines of its own.
func contextOf(l []api.Node, n int) int {
	for up := l[n].Parent; up >= 0; up = l[up].Parent {
		switch l[up].Kind {
		case api.NkRoot, api.NkBlock, api.NkFlex, api.NkRuby, api.NkBase, api.NkNote:
			return up
		}
	}
	return 0
}

func isInline(kind uint8) bool {
	return slices.Contains([]uint8{api.NkRoot, api.NkBlock, api.NkRuby, api.NkBase, api.NkNote}, kind)
}

// charsOf are the context's characters.
func charsOf(l []api.Node, context int) []api.Char {
	var all []api.Char
	for n, x := range l {
		if contextOf(l, n) != context {
			continue
		}
		switch x.Kind {
		case api.NkText:
			for _, c := range utf.Decode(x.Text) {
				all = append(all, api.Char{R: c.R, Node: n, At: c.At, Len: c.Len, Kind: api.ChText})
			}
		case api.NkBreak:
			all = append(all, api.Char{R: 0, Node: n, At: 0, Len: 0, Kind: api.ChForced})
		case api.NkBlock, api.NkFlex, api.NkRuby:
			all = append(all, api.Char{R: 0xfffc, Node: n, At: 0, Len: 0, Kind: api.ChAtom})
		}
	}
	return all
}

// rulesOf tries all nodes for each place, the greatest one first.
func rulesOf(l []api.Node, chars []api.Char) []int {
	rules := make([]int, len(chars))
	for i := range chars {
		for n := len(l) - 1; i > 0 && n >= 0; n-- {
			a, b := chars[i-1].Node, chars[i].Node
			if (n == a || isAbove(l, n, a)) && (n == b || isAbove(l, n, b)) {
				rules[i] = n
				break
			}
		}
	}
	return rules
}

// advanceOf is how far the line character c goes.
func (g given) advanceOf(c api.Char) int64 {
	s := g.s[c.Node]
	switch c.Kind {
	case api.ChForced:
		return 0
	case api.ChAtom:
		return g.atoms[c.Node]
	case api.ChTab:
		return font.Advance(g.fonts[s.Font], s.Size, 0x20) * int64(s.Tab)
	}
	return font.Advance(g.fonts[s.Font], s.Size, c.R)
}

// cellsIn are the cells of what the node up is above in the context, without where lines may end.
func (g given) cellsIn(up, context int, chars []api.Char) []api.Cell {
	kinds := map[uint8]uint8{
		api.ChText: api.CeChar, api.ChSpace: api.CeSpace, api.ChHang: api.CeHang, api.ChKeep: api.CeKeep,
		api.ChTab: api.CeTab, api.ChForced: api.CeForced, api.ChAtom: api.CeAtom,
	}
	var row []api.Cell
	for n, x := range g.l {
		if x.Parent != up {
			continue
		}
		if x.Kind == api.NkBox {
			row = append(row, api.Cell{Kind: api.CeOpen, Node: n, Char: -1, Adv: x.Start})
			row = append(row, g.cellsIn(n, context, chars)...)
			row = append(row, api.Cell{Kind: api.CeClose, Node: n, Char: -1, Adv: x.End})
		}
		for i, c := range chars {
			if c.Node == n {
				row = append(row, api.Cell{Kind: kinds[c.Kind], Node: n, Char: i, Adv: g.advanceOf(c)})
			}
		}
	}
	return row
}

// byWords are the context's line characters and cells.
func (g given) byWords(t *testing.T, context int) ([]api.Char, []api.Cell) {
	t.Helper()
	chars, e := white.Collapse(charsOf(g.l, context), g.s)
	if e != api.OK {
		t.Fatal(e)
	}
	is, e := chance.Chances(chars, g.s, rulesOf(g.l, chars))
	if e != api.OK {
		t.Fatal(e)
	}
	row := g.cellsIn(context, context, chars)
	for i := 1; i < len(chars); i++ {
		at := 1 + slices.IndexFunc(row, func(c api.Cell) bool { return c.Char == i-1 })
		for row[at].Kind == api.CeClose {
			at++
		}
		row[at].Soft, row[at].Emerg = is[i] == api.BrSoft, is[i] == api.BrEmerg
	}
	return chars, row
}

// check holds what is said of a context against the chapter's words, and against what follows of them.
func (g given) check(t *testing.T, context int) {
	t.Helper()
	all, e := cells.Chars(g.t, context)
	if want := charsOf(g.l, context); e != api.OK || !slices.Equal(all, want) {
		t.Fatalf("%v: Chars(%d) is %v, %d, want %v", g.l, context, all, e, want)
	}
	chars, row := g.cells(t, context)
	wantChars, want := g.byWords(t, context)
	if !slices.Equal(chars, wantChars) || !slices.Equal(row, want) {
		t.Fatalf("%v, %v: Cells(%d) is %v, %v, want %v, %v", g.l, g.s, context, chars, row, wantChars, want)
	}
	g.checkNesting(t, context, chars, row)
	g.checkEnds(t, chars, row)
}

// checkNesting is P11.4: it looks for each edge, without following the tree.
func (g given) checkNesting(t *testing.T, context int, chars []api.Char, row []api.Cell) {
	t.Helper()
	next := 0
	opens, closes := map[int][]int{}, map[int][]int{}
	for k, c := range row {
		switch {
		case c.Kind == api.CeOpen && c.Char == -1:
			opens[c.Node] = append(opens[c.Node], k)
		case c.Kind == api.CeClose && c.Char == -1:
			closes[c.Node] = append(closes[c.Node], k)
		case c.Char == next && next < len(chars) && chars[next].Node == c.Node && c.Kind < api.CeOpen:
			next++
		default:
			t.Fatalf("%v: Cells(%d): %v: the cell %d is not the one of a character or a box", g.l, context, row, k)
		}
	}
	if next != len(chars) {
		t.Fatalf("%v: Cells(%d): %v: %d of %d characters have a cell", g.l, context, row, next, len(chars))
	}
	for n, x := range g.l {
		has := x.Kind == api.NkBox && contextOf(g.l, n) == context
		if !has && len(opens[n])+len(closes[n]) == 0 {
			continue
		}
		if !has || len(opens[n]) != 1 || len(closes[n]) != 1 {
			t.Fatalf("%v: Cells(%d): %v: the node %d opens at %v, and closes at %v", g.l, context, row, n, opens[n], closes[n])
		}
		for k, c := range row {
			if (opens[n][0] < k && k < closes[n][0]) != isAbove(g.l, n, c.Node) {
				t.Fatalf("%v: Cells(%d): %v: the cell %d is not where the box %d has it", g.l, context, row, k, n)
			}
		}
	}
}

// checkEnds is P11.5: it goes back from each cell ahead of which a line may end, and counts the places.
func (g given) checkEnds(t *testing.T, chars []api.Char, row []api.Cell) {
	t.Helper()
	rules, e := cells.Rules(g.t, chars)
	is, f := chance.Chances(chars, g.s, rules)
	if e != api.OK || f != api.OK {
		t.Fatal(e, f)
	}
	soft, emerg := 0, 0
	for k, c := range row {
		if c.Soft {
			soft++
		}
		if c.Emerg {
			emerg++
		}
		if !c.Soft && !c.Emerg {
			continue
		}
		before := k - 1
		for before >= 0 && row[before].Kind == api.CeClose {
			before--
		}
		if c.Soft && c.Emerg || c.Kind == api.CeClose || before < 0 || row[before].Char < 0 {
			t.Fatalf("%v: %v: a line may not end ahead of the cell %d", g.l, row, k)
		}
	}
	count := func(which uint8) int {
		n := 0
		for _, is := range is {
			if is == which {
				n++
			}
		}
		return n
	}
	if soft != count(api.BrSoft) || emerg != count(api.BrEmerg) {
		t.Fatalf("%v: %v: %d and %d cells for the places %v", g.l, row, soft, emerg, is)
	}
}

// checkAll holds all contexts of the tree against the chapter's words, and all its other nodes against the errors.
func (g given) checkAll(t *testing.T) {
	t.Helper()
	for n, x := range g.l {
		if isInline(x.Kind) {
			g.check(t, n)
		} else {
			wantErrors(t, g, n, api.ErrArg)
		}
	}
}
