package cells_test

import (
	"strings"
	"testing"

	"stickful/api"
	"stickful/arena"
	"stickful/cells"
	"stickful/style"
)

// shape is a node with all that is in it.
type shape struct {
	node api.Node
	kids []shape
}

func of(kind uint8, kids ...shape) shape { return shape{api.Node{Kind: kind}, kids} }
func root(kids ...shape) shape           { return of(api.NkRoot, kids...) }
func box(kids ...shape) shape            { return of(api.NkBox, kids...) }
func block(kids ...shape) shape          { return of(api.NkBlock, kids...) }
func flex(kids ...shape) shape           { return of(api.NkFlex, kids...) }
func ruby(kids ...shape) shape           { return of(api.NkRuby, kids...) }
func base(kids ...shape) shape           { return of(api.NkBase, kids...) }
func note(kids ...shape) shape           { return of(api.NkNote, kids...) }
func ends() shape                        { return of(api.NkBreak) }

func text(s string) shape {
	return shape{node: api.Node{Kind: api.NkText, Text: s}}
}

// edged is x with these edges.
func (x shape) edged(start, end int64) shape {
	x.node.Start, x.node.End = start, end
	return x
}

// with is x with a declaration of the parts that set has.
func (x shape) with(set uint16, s api.Style) shape {
	x.node.Decl = api.Decl{Set: set, Style: s}
	return x
}

func (x shape) white(w uint8) shape { return x.with(api.DeWhite, api.Style{White: w}) }
func (x shape) wrap() shape         { return x.with(api.DeWrap, api.Style{Wrap: api.WrAnywhere}) }

// appendTo appends the nodes of x, which is in the node up.
func (x shape) appendTo(l []api.Node, up int) []api.Node {
	x.node.Parent = up
	n := len(l)
	l = append(l, x.node)
	for _, kid := range x.kids {
		l = kid.appendTo(l, n)
	}
	return l
}

func (x shape) nodes() []api.Node { return x.appendTo(nil, -1) }

// given is what Cells is passed beside a context, and the nodes of its tree.
type given struct {
	l     []api.Node
	t     *arena.Tree
	s     []api.Style
	fonts []api.Font
	atoms []int64
}

// give makes that of a tree, with the styles that are declared, and atoms that go 1000 and their number.
func give(t *testing.T, l []api.Node) given {
	t.Helper()
	x, e := arena.New(l)
	if e != api.OK {
		t.Fatal(e, l)
	}
	s, e := x.Styles(style.First())
	if e != api.OK {
		t.Fatal(e)
	}
	g := given{l: l, t: x, s: s, fonts: fonts(), atoms: make([]int64, len(l))}
	for n := range l {
		g.atoms[n] = 1000 + int64(n)
	}
	return g
}

// fonts are three whose runes, spaces and ideographs go differently.
func fonts() []api.Font {
	var l []api.Font
	for n := range 3 {
		l = append(l, api.Font{Other: 512 + n, Ranges: []api.Advance{{From: ' ', To: ' ', Adv: 256 + n}, {From: 0x4e00, To: 0x9fff, Adv: 1024 + n}}})
	}
	return l
}

// cells are those of the context, which must be one.
func (g given) cells(t *testing.T, context int) ([]api.Char, []api.Cell) {
	t.Helper()
	chars, row, e := cells.Cells(g.t, context, g.s, g.fonts, g.atoms)
	if e != api.OK {
		t.Fatalf("%v: Cells(%d): %d", g.l, context, e)
	}
	return chars, row
}

// signs stand for the kinds of cells, from CeSpace on.
const signs = "_~+>|^[]"

// show writes a row: what stands for each cell, behind * if it is Soft, and ! if it is Emerg.
func show(chars []api.Char, row []api.Cell) string {
	var b strings.Builder
	for _, c := range row {
		if c.Soft {
			b.WriteByte('*')
		}
		if c.Emerg {
			b.WriteByte('!')
		}
		if c.Kind == api.CeChar {
			b.WriteRune(chars[c.Char].R)
		} else {
			b.WriteByte(signs[c.Kind-api.CeSpace])
		}
	}
	return b.String()
}

// wantRow expects a context's cells to be shown like this, and to be as the chapter's words have them.
func wantRow(t *testing.T, x shape, context int, want string) {
	t.Helper()
	g := give(t, x.nodes())
	if got := show(g.cells(t, context)); got != want {
		t.Errorf("%v: Cells(%d): %s, want %s", g.l, context, got, want)
	}
	g.check(t, context)
}
