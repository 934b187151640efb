package cells_test

import (
	"math"
	"math/rand/v2"
	"slices"
	"strings"
	"testing"

	"stickful/api"
	"stickful/cells"
)

// source draws the same numbers in each run.
func source() *rand.Rand { return rand.New(rand.NewPCG(11, 110)) }

// kidKinds are the kinds that kids of a node of this kind may have.
func kidKinds(kind uint8) []uint8 {
	switch kind {
	case api.NkText, api.NkBreak:
		return nil
	case api.NkFlex:
		return []uint8{api.NkBlock}
	case api.NkRuby:
		return []uint8{1, 1, 2, 2, 3, 4, 5, 6, 7, 7, 8, 8}
	}
	return []uint8{1, 1, 1, 1, 2, 2, 2, 3, 4, 5, 6} // mostly texts and boxes
}

// pieces are what texts are drawn from.
func pieces() []string {
	return []string{"a", "b1", "漢", "字", " ", " ", "\t", "\n", "\r\n", "(", ")", "ぁ", "々", "\u0301", "\u200b", "—", "\xe2\x82", "\xff", "\U0001f600", "-"}
}

func drawnText(r *rand.Rand) string {
	var b strings.Builder
	for range r.IntN(5) {
		b.WriteString(pieces()[r.IntN(len(pieces()))])
	}
	return b.String()
}

// drawnStyle is valid for Cells, though it need not be in what the chapter does not name.
func drawnStyle(r *rand.Rand) api.Style {
	s := api.Style{White: uint8(r.IntN(6)), Tab: r.IntN(65), Font: r.IntN(3), Size: r.Int64N(4096)}
	if r.IntN(2) == 0 {
		s.White = []uint8{api.WhNormal, api.WhPreWrap}[r.IntN(2)]
	}
	if r.IntN(2) == 0 {
		s.Word, s.Wrap, s.Line = uint8(r.IntN(3)), uint8(r.IntN(2)), uint8(r.IntN(4))
	}
	if r.IntN(30) == 0 {
		s.Word, s.Wrap, s.Line, s.HKind, s.Height = 9, 9, 9, 9, -9
		s.Size = []int64{-1, 1<<30 + 1, math.MaxInt64, math.MinInt64}[r.IntN(4)]
	}
	return s
}

// drawnNode is valid, of this kind.
func drawnNode(r *rand.Rand, kind uint8, parent int) api.Node {
	x := api.Node{Kind: kind, Parent: parent}
	switch kind {
	case api.NkText:
		x.Text = drawnText(r)
	case api.NkBox, api.NkBlock, api.NkFlex:
		x.Start, x.End = r.Int64N(200)-100, r.Int64N(200)-100
	}
	return x
}

// drawn is a tree of n nodes: the less steep, the more its nodes are beside each other.
func drawn(r *rand.Rand, n, steep int) []api.Node {
	l := []api.Node{{Parent: -1}}
	depths := []int{0}
	for len(l) < n {
		parent := len(l) - 1
		for parent > 0 && (kidKinds(l[parent].Kind) == nil || depths[parent] == api.MaxDepth || r.IntN(steep) == 0) {
			parent = l[parent].Parent
		}
		kinds := kidKinds(l[parent].Kind)
		l = append(l, drawnNode(r, kinds[r.IntN(len(kinds))], parent))
		depths = append(depths, depths[parent]+1)
	}
	return l
}

// drawnGiven is a tree with styles and atoms of any kind: few styles that nodes share, or as many as nodes.
func drawnGiven(t *testing.T, r *rand.Rand) given {
	t.Helper()
	g := give(t, drawn(r, 1+r.IntN(40), 1+r.IntN(8)))
	few := []api.Style{drawnStyle(r), drawnStyle(r)}
	share := r.IntN(2) == 0
	for n := range g.l {
		g.s[n] = drawnStyle(r)
		if share {
			g.s[n] = few[r.IntN(2)]
		}
		g.atoms[n] = r.Int64N(4000) - 2000
	}
	return g
}

// P11.1, P11.3, P11.4, P11.5: all nodes of drawn trees, of all kinds.
func TestDrawnTrees(t *testing.T) {
	r := source()
	for range 20000 {
		drawnGiven(t, r).checkAll(t)
	}
}

// P11.1 to P11.5: what is drawn has all that the other tests rely on.
func TestDrawnTreesHaveAll(t *testing.T) {
	r := source()
	var kinds [api.CeClose + 1][3]int
	for range 2000 {
		g := drawnGiven(t, r)
		for n, x := range g.l {
			if !isInline(x.Kind) {
				continue
			}
			_, row := g.cells(t, n)
			for _, c := range row {
				switch {
				case c.Soft:
					kinds[c.Kind][api.BrSoft]++
				case c.Emerg:
					kinds[c.Kind][api.BrEmerg]++
				default:
					kinds[c.Kind][api.BrNone]++
				}
			}
		}
	}
	for kind, counts := range kinds {
		may := !slices.Contains([]uint8{api.CeForced, api.CeClose}, uint8(kind))
		if counts[api.BrNone] == 0 || (counts[api.BrSoft] > 0) != may {
			t.Errorf("the kind %d: %v", kind, counts)
		}
	}
	if kinds[api.CeChar][api.BrEmerg] == 0 || kinds[api.CeOpen][api.BrEmerg] == 0 {
		t.Error(kinds)
	}
}

// P11.2: rows of any nodes, of several contexts and in no order, of any Kind and R.
func TestDrawnRules(t *testing.T) {
	r := source()
	for range 10000 {
		g := give(t, drawn(r, 1+r.IntN(40), 1+r.IntN(12)))
		l := make([]api.Char, r.IntN(30))
		for i := range l {
			l[i] = api.Char{R: int32(r.Uint32()), Node: r.IntN(len(g.l)), At: r.IntN(9) - 4, Len: r.IntN(9) - 4, Kind: uint8(r.IntN(256))}
			if i > 0 && r.IntN(3) == 0 {
				l[i].Node = l[i-1].Node
			}
		}
		got, e := cells.Rules(g.t, l)
		if want := rulesOf(g.l, l); e != api.OK || !slices.Equal(got, want) {
			t.Fatalf("%v: Rules(%v) is %v, %d, want %v", g.l, l, got, e, want)
		}
	}
}

// changed is the tree with other contents of all contexts but one, whose own nodes stay, and what is above it; to has the new number of each old node that stays, and -1 for all others.
func changed(r *rand.Rand, l []api.Node, context int) (other []api.Node, to []int) {
	to = make([]int, len(l))
	insert := func(up int) {
		kinds := kidKinds(other[up].Kind)
		for range r.IntN(3) {
			other = append(other, drawnNode(r, kinds[r.IntN(len(kinds))], up))
		}
	}
	for n, x := range l {
		own := n > 0 && contextOf(l, n) == context
		stays := own || n == context || isAbove(l, n, context)
		if !stays && (to[x.Parent] < 0 || r.IntN(2) == 0) {
			to[n] = -1
			continue
		}
		if x.Parent >= 0 {
			x.Parent = to[x.Parent]
		}
		if !own && x.Kind == api.NkText {
			x.Text += drawnText(r)
		}
		to[n] = len(other)
		other = append(other, x)
		// What is put into the context, or a box of it, would be the context's own.
		if (!own || x.Kind != api.NkBox) && n != context && kidKinds(x.Kind) != nil {
			insert(to[n])
		}
	}
	return other, to
}

// P11.6: the cells of a context stay the same, but for the nodes' numbers, whatever becomes of all other contexts, and whatever is passed for other nodes.
func TestDrawnChangesOfOtherContexts(t *testing.T) {
	r := source()
	rows, inner := 0, 0
	for range 5000 {
		g := drawnGiven(t, r)
		for context, x := range g.l {
			if !isInline(x.Kind) {
				continue
			}
			other, to := changed(r, g.l, context)
			h := give(t, other)
			for n := range other {
				h.s[n], h.atoms[n] = drawnStyle(r), r.Int64()
			}
			for n := range g.l {
				if n == context || to[n] >= 0 && contextOf(g.l, n) == context {
					h.s[to[n]], h.atoms[to[n]] = g.s[n], g.atoms[n]
				}
			}
			chars, row := g.cells(t, context)
			wasAtoms := slices.ContainsFunc(row, func(c api.Cell) bool { return c.Kind == api.CeAtom })
			for i := range chars {
				chars[i].Node = to[chars[i].Node]
			}
			for k := range row {
				row[k].Node = to[row[k].Node]
			}
			gotChars, got := h.cells(t, to[context])
			if !slices.Equal(gotChars, chars) || !slices.Equal(got, row) {
				t.Fatalf("%v: Cells(%d): %v, %v; with other contexts changed: %v: Cells(%d): %v, %v", g.l, context, chars, row, other, to[context], gotChars, got)
			}
			rows++
			if wasAtoms && len(other) != len(g.l) {
				inner++
			}
		}
	}
	if rows < 5000 || inner < 500 {
		t.Error(rows, inner)
	}
}
