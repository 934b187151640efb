package cells_test

import (
	"math"
	"slices"
	"testing"

	"stickful/api"
	"stickful/arena"
	"stickful/cells"
)

// example is the chapter's tree.
func example() shape {
	return root(text("a"), box(text(" b")).edged(64, 32), ends())
}

// wantChars expects these characters of a context.
func wantChars(t *testing.T, x shape, context int, want ...api.Char) {
	t.Helper()
	g := give(t, x.nodes())
	if got, e := cells.Chars(g.t, context); e != api.OK || !slices.Equal(got, want) {
		t.Errorf("%v: Chars(%d) is %v, %d, want %v", g.l, context, got, e, want)
	}
}

// P11.1: the chapter's example.
func TestCharsExample(t *testing.T) {
	wantChars(t, example(), 0, api.Char{R: 'a', Node: 1, Len: 1}, api.Char{R: ' ', Node: 3, Len: 1}, api.Char{R: 'b', Node: 3, At: 1, Len: 1}, api.Char{Node: 4, Kind: api.ChForced})
}

// P11.1: what nodes of each kind have of their own.
func TestCharsOfEachKind(t *testing.T) {
	atom := api.Char{R: 0xfffc, Node: 1, Kind: api.ChAtom}
	wantChars(t, root(text("a")), 0, api.Char{R: 'a', Node: 1, Len: 1})
	wantChars(t, root(box()), 0)
	wantChars(t, root(ends()), 0, api.Char{Node: 1, Kind: api.ChForced})
	wantChars(t, root(block()), 0, atom)
	wantChars(t, root(flex()), 0, atom)
	wantChars(t, root(ruby()), 0, atom)
	wantChars(t, root(ruby(base())), 1)
	wantChars(t, root(ruby(note())), 1)
	wantChars(t, root(block(text("in"))), 0, atom)
	wantChars(t, root(flex(block(text("in")))), 0, atom)
	wantChars(t, root(ruby(base(text("in")), note(text("in")))), 0, atom)
}

// P11.1: texts of any bytes, each character with its node and its bytes, as they are before white space is collapsed.
func TestCharsOfTexts(t *testing.T) {
	wantChars(t, root(text("")), 0)
	wantChars(t, root(text(""), text(""), text("a"), text("")), 0, api.Char{R: 'a', Node: 3, Len: 1})
	wantChars(t, root(text("é漢\U0001f600")), 0,
		api.Char{R: 0xe9, Node: 1, Len: 2}, api.Char{R: '漢', Node: 1, At: 2, Len: 3}, api.Char{R: 0x1f600, Node: 1, At: 5, Len: 4})
	wantChars(t, root(text("\xe2\x82a\xff")), 0,
		api.Char{R: 0xfffd, Node: 1, Len: 2}, api.Char{R: 'a', Node: 1, At: 2, Len: 1}, api.Char{R: 0xfffd, Node: 1, At: 3, Len: 1})
	wantChars(t, root(text("\xe6\xbc"), text("\xa2")), 0, api.Char{R: 0xfffd, Node: 1, Len: 2}, api.Char{R: 0xfffd, Node: 2, Len: 1})
	wantChars(t, root(text(" \t\r\n \x00")), 0,
		api.Char{R: ' ', Node: 1, Len: 1}, api.Char{R: '\t', Node: 1, At: 1, Len: 1}, api.Char{R: '\r', Node: 1, At: 2, Len: 1},
		api.Char{R: '\n', Node: 1, At: 3, Len: 1}, api.Char{R: ' ', Node: 1, At: 4, Len: 1}, api.Char{R: 0, Node: 1, At: 5, Len: 1})
	wantChars(t, root(text("\ufffc\ufffd")), 0, api.Char{R: 0xfffc, Node: 1, Len: 3}, api.Char{R: 0xfffd, Node: 1, At: 3, Len: 3})
}

// nested has nodes of all kinds, in each context.
func nested() shape {
	return root(
		text("a"),                          // 1
		box(text("b"), box(), box(ends())), // 2, with 3 to 6
		block(text("c"), box(text("d")), // 7, with 8 to 16
			block(text("e"), flex(block(text("f")), block()))), // 11, with 12 to 16
		box(flex(block(ends()))), // 17, with 18 to 20
		ruby(text("g"), base(text("h"), block(text("i"))), ends(), // 21, with 22 to 34
			note(ruby(base(text("j")))), box(text("k")), flex()), // 28, with 29 to 31; 32 to 34
		text("l"), // 35
	)
}

// P11.1: the nodes of each context, in their order, and of no other one.
func TestCharsOfNested(t *testing.T) {
	g := give(t, nested().nodes())
	for context, want := range map[int][]int{
		0: {1, 3, 6, 7, 18, 21, 35}, 7: {8, 10, 11}, 11: {12, 13}, 14: {15}, 16: nil, 19: {20}, 21: {22, 27, 33, 34}, 23: {24, 25}, 25: {26}, 28: {29}, 29: nil, 30: {31},
	} {
		l, e := cells.Chars(g.t, context)
		var nodes []int
		for _, c := range l {
			nodes = append(nodes, c.Node)
		}
		if e != api.OK || !slices.Equal(nodes, want) {
			t.Errorf("Chars(%d) is of %v, %d, want %v", context, nodes, e, want)
		}
	}
	g.checkAll(t)
}

// wantRules expects that of a row of characters of these nodes.
func wantRules(t *testing.T, x shape, nodes, want []int) {
	t.Helper()
	g := give(t, x.nodes())
	l := make([]api.Char, len(nodes))
	for i, n := range nodes {
		l[i].Node = n
	}
	if got, e := cells.Rules(g.t, l); e != api.OK || !slices.Equal(got, want) {
		t.Errorf("%v: Rules of %v are %v, %d, want %v", g.l, nodes, got, e, want)
	}
}

// P11.2: characters of one node, of neighbours in a box, of different boxes, across the context's own level, and of several contexts.
func TestRules(t *testing.T) {
	x := root(
		text("a"), // 1
		box(text("b"), text("c"), box(text("d"), ends()), block(text("e"))), // 2, with 3 and 4; 5, with 6 and 7; 8, with 9
		box(text("f"), box(box(text("g")))),                                 // 10, with 11; 12, with 13 and 14
		text("h"),                                                           // 15
	)
	wantRules(t, x, []int{1, 1, 1}, []int{0, 1, 1})
	wantRules(t, x, []int{14, 14}, []int{0, 14})
	wantRules(t, x, []int{3, 4, 3}, []int{0, 2, 2})
	wantRules(t, x, []int{4, 6, 7, 8}, []int{0, 2, 5, 2})
	wantRules(t, x, []int{8, 11, 14, 15}, []int{0, 0, 10, 0})
	wantRules(t, x, []int{1, 3, 15, 1}, []int{0, 0, 0, 0})
	wantRules(t, x, []int{9, 9, 8, 9, 6, 14}, []int{0, 9, 8, 8, 2, 0})
	wantRules(t, x, []int{0, 0, 2, 3, 2, 5, 2, 12, 13}, []int{0, 0, 0, 2, 2, 2, 2, 0, 12})
	wantRules(t, nested(), []int{8, 10, 11, 15, 12, 20, 35}, []int{0, 7, 7, 11, 11, 0, 0})
}

// P11.2: rows of nothing, and of one character.
func TestRulesOfShortRows(t *testing.T) {
	for _, x := range []shape{root(), root(text("a")), nested()} {
		g := give(t, x.nodes())
		for _, l := range [][]api.Char{nil, {}, []api.Char{{Node: -1}, {Node: 99}}[:0]} {
			if got, e := cells.Rules(g.t, l); e != api.OK || len(got) != 0 {
				t.Errorf("%v: Rules(%v) is %v, %d", g.l, l, got, e)
			}
		}
		for n := range g.l {
			wantRules(t, x, []int{n}, []int{0})
			wantRules(t, x, []int{n, n}, []int{0, n})
			wantRules(t, x, []int{n, 0}, []int{0, 0})
		}
	}
}

// P11.2: only the nodes count.
func TestRulesOfAnyChars(t *testing.T) {
	g := give(t, nested().nodes())
	var l []api.Char
	for n := range g.l {
		l = append(l, api.Char{Node: n, R: math.MinInt32, At: math.MinInt, Len: math.MaxInt, Kind: uint8(255 - n)})
	}
	if got, e := cells.Rules(g.t, l); e != api.OK || !slices.Equal(got, rulesOf(g.l, l)) {
		t.Error(got, e)
	}
}

// P11.2: a node that does not exist, at each place of a row.
func TestRulesOfNoNode(t *testing.T) {
	g := give(t, nested().nodes())
	for n := 1; n < 5; n++ {
		for i := range n {
			for _, node := range none(len(g.l)) {
				l := slices.Repeat([]api.Char{{Node: len(g.l) - 1}}, n)
				l[i].Node = node
				if got, e := cells.Rules(g.t, l); e != api.ErrNone || got != nil {
					t.Errorf("Rules(%v) is %v, %d", l, got, e)
				}
			}
		}
	}
}

// P11.1, P11.2: no tree, whatever else is passed.
func TestNoTree(t *testing.T) {
	for _, x := range []*arena.Tree{nil, {}, new(arena.Tree)} {
		for _, context := range append(none(1), 0) {
			if got, e := cells.Chars(x, context); e != api.ErrNil || got != nil {
				t.Errorf("Chars(%d) is %v, %d", context, got, e)
			}
			for _, l := range [][]api.Char{nil, {}, {{}}, {{Node: context}}, {{}, {Node: context}}} {
				if got, e := cells.Rules(x, l); e != api.ErrNil || got != nil {
					t.Errorf("Rules(%v) is %v, %d", l, got, e)
				}
			}
		}
	}
}
