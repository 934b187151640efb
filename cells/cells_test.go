package cells_test

import (
	"math"
	"slices"
	"strings"
	"testing"

	"stickful/api"
	"stickful/cells"
)

// even is a font of which each rune goes 512.
func even() []api.Font { return []api.Font{{Other: 512}} }

// P11.3: the chapter's example.
func TestCellsExample(t *testing.T) {
	g := give(t, example().nodes())
	g.fonts = even()
	chars, row := g.cells(t, 0)
	wantChars := []api.Char{
		{R: 'a', Node: 1, Len: 1}, {R: ' ', Node: 3, Len: 1, Kind: api.ChSpace},
		{R: 'b', Node: 3, At: 1, Len: 1}, {Node: 4, Kind: api.ChForced},
	}
	want := []api.Cell{
		{Kind: api.CeChar, Node: 1, Char: 0, Adv: 512},
		{Kind: api.CeOpen, Node: 2, Char: -1, Adv: 64},
		{Kind: api.CeSpace, Node: 3, Char: 1, Adv: 512},
		{Kind: api.CeChar, Node: 3, Char: 2, Adv: 512, Soft: true},
		{Kind: api.CeClose, Node: 2, Char: -1, Adv: 32},
		{Kind: api.CeForced, Node: 4, Char: 3},
	}
	if !slices.Equal(chars, wantChars) || !slices.Equal(row, want) {
		t.Error(chars, row)
	}
	wantErrors(t, g, 1, api.ErrArg)
	wantErrors(t, g, 9, api.ErrNone)
}

// P11.3: trees of one node, and contexts without a character, or without anything.
func TestContextsOfNothing(t *testing.T) {
	wantRow(t, root(), 0, "")
	wantRow(t, root(text("")), 0, "")
	wantRow(t, root(text(""), text("")), 0, "")
	wantRow(t, root(box()), 0, "[]")
	wantRow(t, root(text(""), box(box(text(""))), box(), text("")), 0, "[[]][]")
	wantRow(t, root(block(), text("a")), 1, "")
	wantRow(t, root(ruby(base(), note())), 1, "")
	wantRow(t, root(ruby(base(), note())), 2, "")
	wantRow(t, root(ruby(base(), note())), 3, "")
	wantRow(t, root(block(box())), 1, "[]")
}

// P11.3, P11.4: nodes of each kind in their order, and boxes in boxes, without anything, next to each other, and at the context's ends.
func TestNodesInOrder(t *testing.T) {
	wantRow(t, root(box(text("a"))), 0, "[a]")
	wantRow(t, root(box(), text("a"), box()), 0, "[]a[]")
	wantRow(t, root(box(box(box(text("a"))))), 0, "[[[a]]]")
	wantRow(t, root(box(box(), text("a"), box()), box(text("b")), box(box())), 0, "[[]a[]][b][[]]")
	wantRow(t, root(text("a"), text(""), text("b"), box(text("c"), text("d")), text("e")), 0, "ab[cd]e")
	wantRow(t, root(ends(), ends(), box(ends()), text("a"), ends()), 0, "||[|]a|")
	wantRow(t, root(block(text("in")), flex(block()), ruby(base(text("in"))), box(block())), 0, "^*^*^*[^]")
	wantRow(t, nested(), 0, "a[b[][|]]^*[^]*^*l")
	wantRow(t, nested(), 7, "c[d]*^")
	wantRow(t, nested(), 11, "e*^")
	wantRow(t, nested(), 21, "g|[k]*^")
	wantRow(t, nested(), 23, "h*^")
}

// P11.3: each Kind of a line character, and the cell that it becomes.
func TestCellsOfEachKind(t *testing.T) {
	wantRow(t, root(text("a b\tc\nd")), 0, "a_*b_*c_*d")
	wantRow(t, root(text("a b\tc\nd").white(api.WhNowrap)), 0, "a_b_c_d")
	wantRow(t, root(text("a b\tc\nd").white(api.WhPre)), 0, "a+b>c|d")
	wantRow(t, root(text("a b\tc\nd").white(api.WhPreWrap)), 0, "a~*b>*c|d")
	wantRow(t, root(text("a b\tc\nd").white(api.WhPreLine)), 0, "a_*b_*c|d")
	wantRow(t, root(text("a b\tc\nd").white(api.WhBreakSpaces)), 0, "a+*b>*c|d")
	wantRow(t, root(text("\xe2\x82\xff")), 0, "\ufffd\ufffd")
	wantRow(t, root(text("\ufffc"), block()), 0, "\ufffc*^")
}

// P11.3: what is collapsed has no cell, across nodes and edges; what is left has its own number.
func TestCollapsedHasNoCell(t *testing.T) {
	wantRow(t, root(text("a "), box(text(" "), text("  "), box()), text(" b")), 0, "a_*[[]]b")
	wantRow(t, root(text("a "), box(text(" \t b")), text(" \n "), box(text(" c"))), 0, "a_*[b]_*[c]")
	wantRow(t, root(text("漢\n"), box(text("字"))), 0, "漢*[字]")
	wantRow(t, root(text(" a "), block(text(" ")), text(" ")), 0, "_*a_*^_")
	wantRow(t, root(text("a\r"), text("\nb").white(api.WhPre)), 0, "a|b")
	g := give(t, root(text("a \n "), text(" "), box(text(" \xe2\x82"))).nodes())
	chars, row := g.cells(t, 0)
	wantChars := []api.Char{{R: 'a', Node: 1, Len: 1}, {R: ' ', Node: 1, At: 2, Len: 1, Kind: api.ChSpace}, {R: 0xfffd, Node: 4, At: 1, Len: 2}}
	if !slices.Equal(chars, wantChars) || len(row) != 5 || row[3].Char != 2 || row[3].Node != 4 {
		t.Error(chars, row)
	}
}

// P11.3: how far cells of each kind go, by the font, the size and the tab of the node's own style.
func TestAdvances(t *testing.T) {
	own := func(x shape, font int, size int64, white uint8) shape {
		return x.with(api.DeFont|api.DeSize|api.DeWhite|api.DeTab, api.Style{Font: font, Size: size, White: white, Tab: 4})
	}
	x := own(root(
		own(text("a漢 "), 1, 2048, api.WhNormal),
		own(box(own(text("a 漢\t"), 2, 512, api.WhPreWrap), text("a ")).edged(-7, 9), 1, 1<<20, api.WhPre),
		own(text("\n \tb"), 1, 1024, api.WhBreakSpaces),
		own(ends(), 1, 1024, 0), own(block(), 1, 1024, 0),
	), 0, 64, api.WhNormal)
	g := give(t, x.nodes())
	_, row := g.cells(t, 0)
	var got []int64
	for _, c := range row {
		got = append(got, c.Adv)
	}
	want := []int64{
		2 * 513, 2 * 1025, 2 * 257, // font 1, twice
		-7, 257, 129, 513, 4 * 129, // font 2, half of it: 514, 258 and 1026; four spaces
		1024 * 513, 1024 * 257, 9, // font 1, 1024 times: the box's own, which its text has too
		0, 257, 4 * 257, 513, // font 1
		0, 1007,
	}
	if !slices.Equal(got, want) {
		t.Errorf("%v, want %v", got, want)
	}
	g.check(t, 0)
}

// P11.3: a tab goes as many spaces as the style's Tab, from 0 to MaxTab; the R of the tab itself does not count.
func TestTabs(t *testing.T) {
	for _, tab := range []int{0, 1, 8, 63, api.MaxTab} {
		for _, size := range []int64{0, 1, 1024, api.MaxUnit} {
			g := give(t, root(text("\t").white(api.WhPre)).nodes())
			g.s[1].Tab, g.s[1].Size = tab, size
			g.fonts = []api.Font{{Ranges: []api.Advance{{From: '\t', To: '\t', Adv: 1}, {From: ' ', To: ' ', Adv: 8192}}}}
			_, row := g.cells(t, 0)
			if want := int64(tab) * size * 8; len(row) != 1 || row[0] != (api.Cell{Kind: api.CeTab, Node: 1, Adv: want}) {
				t.Errorf("%d, %d: %v, want %d", tab, size, row, want)
			}
		}
	}
	// The space is rounded first.
	g := give(t, root(text("\t").white(api.WhPre)).nodes())
	g.s[1].Tab, g.s[1].Size, g.fonts = 10, 3, []api.Font{{Other: 200}}
	if _, row := g.cells(t, 0); row[0].Adv != 10 {
		t.Error(row)
	}
}

// P11.3: collapsed white goes like a space, whatever it was.
func TestAdvancesOfWhite(t *testing.T) {
	g := give(t, root(text("a\tb\nc")).nodes())
	g.fonts = []api.Font{{Other: 512, Ranges: []api.Advance{{From: '\t', To: '\n', Adv: 1}, {From: ' ', To: ' ', Adv: 256}}}}
	if _, row := g.cells(t, 0); len(row) != 5 || row[1].Adv != 256 || row[3].Adv != 256 {
		t.Error(row)
	}
}

// P11.3: edges, and what is passed for atoms, are taken as they are.
func TestEdgesAndAtoms(t *testing.T) {
	for _, n := range []int64{0, 1, -1, api.MaxUnit, -api.MaxUnit} {
		g := give(t, root(box(box().edged(-n, n)).edged(n, 7), block().edged(5, 6)).nodes())
		_, row := g.cells(t, 0)
		want := []api.Cell{
			{Kind: api.CeOpen, Node: 1, Char: -1, Adv: n}, {Kind: api.CeOpen, Node: 2, Char: -1, Adv: -n},
			{Kind: api.CeClose, Node: 2, Char: -1, Adv: n}, {Kind: api.CeClose, Node: 1, Char: -1, Adv: 7},
			{Kind: api.CeAtom, Node: 3, Adv: 1003},
		}
		if !slices.Equal(row, want) {
			t.Errorf("%v, want %v", row, want)
		}
	}
	for _, n := range []int64{0, 1, -1, 1 << 62, math.MaxInt64, math.MinInt64} {
		for _, atom := range []shape{block(text("a")), flex(), ruby(base(text("b")))} {
			g := give(t, root(atom, text("a")).nodes())
			g.atoms = slices.Repeat([]int64{77}, len(g.l))
			g.atoms[1] = n
			if _, row := g.cells(t, 0); row[0].Adv != n || row[0].Kind != api.CeAtom || row[1].Adv != 512 {
				t.Errorf("%v, want %d", row, n)
			}
		}
	}
}

// P11.3: fonts and sizes need not be valid, nor fonts be few; a number that is not valid counts as 0.
func TestFontsAndSizesOfAnyKind(t *testing.T) {
	for _, size := range []int64{-1, api.MaxUnit + 1, math.MaxInt64, math.MinInt64} {
		g := give(t, root(text("a\t").white(api.WhPre)).nodes())
		g.s[1].Size = size
		if _, row := g.cells(t, 0); row[0].Adv != 0 || row[1].Adv != 0 {
			t.Errorf("%d: %v", size, row)
		}
	}
	for _, other := range []int{-1, 8193, math.MaxInt, math.MinInt} {
		g := give(t, root(text("a\t").white(api.WhPre)).nodes())
		g.fonts = []api.Font{{Other: other, Ascent: -1}}
		if _, row := g.cells(t, 0); row[0].Adv != 0 || row[1].Adv != 0 {
			t.Errorf("%d: %v", other, row)
		}
	}
	g := give(t, root(text("a")).nodes())
	g.fonts = slices.Repeat(even(), api.MaxFonts+9)
	g.fonts[api.MaxFonts+8].Other = 99
	g.s[1].Font = api.MaxFonts + 8
	if _, row := g.cells(t, 0); row[0].Adv != 99 {
		t.Error(row)
	}
}

// P11.3, P11.5: where a line may end is stored after all edges that close there, ahead of those that open.
func TestSoft(t *testing.T) {
	// Nothing is ahead of the first character, nor of what opens before it.
	wantRow(t, root(text("漢")), 0, "漢")
	wantRow(t, root(box(), box(box(text("漢")))), 0, "[][[漢]]")
	// Behind one edge that closes, and behind several.
	wantRow(t, root(text("漢"), text("字")), 0, "漢*字")
	wantRow(t, root(box(text("漢")), text("字")), 0, "[漢]*字")
	wantRow(t, root(box(box(box(text("漢")))), text("字")), 0, "[[[漢]]]*字")
	// Ahead of edges that open, and of those that open and close.
	wantRow(t, root(text("漢"), box(text("字"))), 0, "漢*[字]")
	wantRow(t, root(text("漢"), box(box(text("字")))), 0, "漢*[[字]]")
	wantRow(t, root(box(text("漢")), box(text("字"))), 0, "[漢]*[字]")
	wantRow(t, root(box(text("漢")), box(), box(text("字"))), 0, "[漢]*[][字]")
	wantRow(t, root(box(text("漢"), box()), text("字")), 0, "[漢*[]]字")
	wantRow(t, root(box(box(text("漢")), box(box())), text("字")), 0, "[[漢]*[[]]]字")
	wantRow(t, root(text("漢"), box(box(), text("字"))), 0, "漢*[[]字]")
	// Ahead of an atom, and behind one; not ahead of a forced break, nor behind one.
	wantRow(t, root(text("a"), block(), text("a")), 0, "a*^*a")
	wantRow(t, root(box(text("a")), box(block()), text("a")), 0, "[a]*[^]*a")
	wantRow(t, root(text("漢"), ends(), text("字")), 0, "漢|字")
	wantRow(t, root(box(text("漢"), box()), box(ends()), box(), text("字")), 0, "[漢[]][|][]字")
	// Nothing is behind the last character.
	wantRow(t, root(text("漢"), box(), box(text(""))), 0, "漢[][]")
	wantRow(t, root(box(text("漢 ")), box()), 0, "[漢_][]")
	wantRow(t, root(box(text("漢"), box(text("字")), box())), 0, "[漢*[字][]]")
	// More than one place.
	wantRow(t, root(text("a b"), box(text(" 漢字")), text("c")), 0, "a_*b[_*漢*字]*c")
	wantRow(t, root(box(text("  ").white(api.WhBreakSpaces), text(" a").white(api.WhBreakSpaces))), 0, "[+*+*+*a]")
}

// P11.3, P11.5: what may end a line if there is no other way is stored likewise, and is not Soft.
func TestEmerg(t *testing.T) {
	wantRow(t, root(text("ab")).wrap(), 0, "a!b")
	wantRow(t, root(box(text("a")), text("b")).wrap(), 0, "[a]!b")
	wantRow(t, root(box(box(text("a"))), text("b")).wrap(), 0, "[[a]]!b")
	wantRow(t, root(text("a"), box(text("b"))).wrap(), 0, "a![b]")
	wantRow(t, root(box(text("a")), box(), box(text("b")), box()).wrap(), 0, "[a]![][b][]")
	wantRow(t, root(text("a漢b "), block(), text("("), block(), ends(), text("cd")).wrap(), 0, "a*漢*b_*^*(!^|c!d")
	wantRow(t, root(text("ab"), ends(), box(text("a")), ends()).wrap(), 0, "a!b|[a]|")
	wantRow(t, root(text("a\u0301b")).wrap(), 0, "a\u0301!b")
}

// P11.3: the node that rules a place is the nearest one above both characters.
func TestRulingNodes(t *testing.T) {
	// One node rules its own places.
	wantRow(t, root(text("漢字").white(api.WhNowrap), text("漢字")), 0, "漢字*漢*字")
	wantRow(t, root(text("ab").wrap(), text("cd")), 0, "a!bcd")
	// Neighbours in a box are ruled by the box.
	wantRow(t, root(box(text("漢"), text("字")).white(api.WhNowrap)), 0, "[漢字]")
	wantRow(t, root(box(text("漢").white(api.WhNowrap), text("字").white(api.WhNowrap))), 0, "[漢*字]")
	wantRow(t, root(box(text("a"), text("b")).wrap()), 0, "[a!b]")
	wantRow(t, root(box(text("a").wrap(), text("b").wrap())), 0, "[ab]")
	// Different boxes by what is above both: not by one of them, nor by all that is above.
	wantRow(t, root(box(text("漢")).white(api.WhNowrap), box(text("字")).white(api.WhNowrap)), 0, "[漢]*[字]")
	wantRow(t, root(box(box(text("漢")), box(text("字"))).white(api.WhNowrap)), 0, "[[漢][字]]")
	wantRow(t, root(box(box(text("漢")), box(text("字"))).white(api.WhNormal)).white(api.WhNowrap), 0, "[[漢]*[字]]")
	wantRow(t, root(text("漢"), box(text("字"), text("漢")).white(api.WhNowrap), text("字")), 0, "漢*[字漢]*字")
	// The context itself rules what is of no common box.
	wantRow(t, root(block(text("漢").white(api.WhNormal), text("字").white(api.WhNormal)).white(api.WhNowrap)), 1, "漢字")
	wantRow(t, root(block(text("漢"), text("字")).white(api.WhNormal)).white(api.WhNowrap), 1, "漢*字")
	wantRow(t, root(ruby(base(text("a"), box(text("b"))).wrap())), 2, "a![b]")
	wantRow(t, root(ruby(text("a"), base(), text("b")).wrap()), 1, "a!b")
	// An atom's own style rules nothing.
	wantRow(t, root(text("漢"), block().white(api.WhNowrap), block().white(api.WhNowrap)), 0, "漢*^*^")
	wantRow(t, root(box(text("漢"), block().white(api.WhNormal), ruby().white(api.WhNormal)).white(api.WhPre)), 0, "[漢^^]")
}

// P11.3: styles are those that are passed, not those that the nodes declare.
func TestStylesArePassed(t *testing.T) {
	g := give(t, root(text("漢 字").white(api.WhPre)).nodes())
	g.s[1] = api.Style{Size: 2048, Font: 1}
	chars, row := g.cells(t, 0)
	if got := show(chars, row); got != "漢_*字" || row[0].Adv != 2*1025 {
		t.Error(got, row)
	}
}

// P11.6: what other contexts contain changes nothing, but for what is passed for the atoms.
func TestOtherContexts(t *testing.T) {
	var want []api.Cell
	for _, in := range [][]shape{nil, {text("in")}, {text(" "), box(block(text("漢")))}, {ends(), ruby(base(text("字")))}} {
		g := give(t, root(text("a "), box(text(" "), block(in...)), text(" b")).nodes())
		last := len(g.l) - 1
		chars, row := g.cells(t, 0)
		if got := show(chars, row); got != "a_*[^]_*b" {
			t.Errorf("%v: %s", in, got)
		}
		for k := range row {
			if row[k].Node == last {
				row[k].Node = 99
			}
		}
		if want == nil {
			want = slices.Clone(row)
		}
		if !slices.Equal(row, want) {
			t.Errorf("%v: %v, want %v", in, row, want)
		}
		g.atoms[4] = -5
		if _, row := g.cells(t, 0); row[3].Adv != -5 {
			t.Errorf("%v: %v", in, row)
		}
	}
}

// P11.1 to P11.5, R1: long texts, and contexts of many nodes, beside each other or deep, do not take long.
func TestLongContexts(t *testing.T) {
	const most = 1 << 17
	deep := box(text("漢"))
	for range api.MaxDepth - 2 {
		deep = box(deep)
	}
	for _, x := range []shape{
		root(text(strings.Repeat("a ", api.MaxText/2))),
		root(text(strings.Repeat("\n", api.MaxText)).white(api.WhPre)),
		root(text(strings.Repeat(" ", api.MaxText)).white(api.WhPreWrap)),
		root(slices.Repeat([]shape{ends()}, most)...),
		root(slices.Repeat([]shape{box()}, most)...),
		root(slices.Repeat([]shape{block()}, most)...),
		root(slices.Repeat([]shape{deep}, most/api.MaxDepth)...),
	} {
		g := give(t, x.nodes())
		chars, row := g.cells(t, 0)
		rules, e := cells.Rules(g.t, chars)
		if e != api.OK || len(rules) != len(chars) || len(row) < len(chars) || len(row) < most {
			t.Errorf("%d, %d, %d: %d", len(chars), len(row), len(rules), e)
		}
	}
}
