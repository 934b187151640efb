package arena_test

import (
	"math"
	"slices"
	"strings"
	"testing"

	"stickful/api"
	"stickful/arena"
)

// wantCheck expects the same error of Check and of New, and a tree if there is none.
func wantCheck(t *testing.T, what string, l []api.Node, want api.Errno) {
	t.Helper()
	if e := arena.Check(l); e != want {
		t.Errorf("%s: Check is %d, want %d", what, e, want)
	}
	x, e := arena.New(l)
	if e != want || (x != nil) != (want == api.OK) {
		t.Errorf("%s: New is %v, %d, want %d", what, x != nil, e, want)
	}
	if want == api.OK && x.Len() != len(l) || want != api.OK && x.Len() != 0 {
		t.Errorf("%s: Len is %d", what, x.Len())
	}
}

// under are valid nodes, of which the last one is of this kind.
func under(kind uint8) []api.Node {
	l := chain(0)
	if kind == api.NkRoot {
		return l
	}
	if kind == api.NkBase || kind == api.NkNote {
		l = append(l, api.Node{Kind: api.NkRuby})
	}
	return append(l, api.Node{Kind: kind, Parent: len(l) - 1})
}

// P7.1: the chapter's examples.
func TestCheckExamples(t *testing.T) {
	wantCheck(t, "T", example(), api.OK)
	wantCheck(t, "nothing", nil, api.ErrTree)
	wantCheck(t, "a text with the Parent -1", []api.Node{{Kind: api.NkText, Parent: -1}}, api.ErrTree)
	wantCheck(t, "root, text, text in 1", []api.Node{{Parent: -1}, {Kind: api.NkText}, {Kind: api.NkText, Parent: 1}}, api.ErrTree)
	wantCheck(t, "root, base", []api.Node{{Parent: -1}, {Kind: api.NkBase}}, api.ErrTree)
	wantCheck(t, "root, box with Width 1", []api.Node{{Parent: -1}, {Kind: api.NkBox, Width: 1}}, api.ErrArg)
}

// P7.1: the limits, and what they are numbers of.
func TestNumbers(t *testing.T) {
	if api.NkRoot != 0 || api.NkText != 1 || api.NkNote != 8 || api.VaBaseline != 0 || api.VaBottom != 9 || api.MaxDepth != 64 || api.MaxGrow != 1000 || api.MaxUnit != 1<<30 || api.MaxNodes != 1<<20 || api.MaxText != 1<<20 {
		t.Error("the numbers are not the chapter's")
	}
}

// P7.1: none, one, as many as there may be, and one more.
func TestHowManyNodes(t *testing.T) {
	wantCheck(t, "nil", nil, api.ErrTree)
	wantCheck(t, "an empty list", []api.Node{}, api.ErrTree)
	wantCheck(t, "nothing before a root", chain(3)[:0], api.ErrTree)
	wantCheck(t, "one", chain(0), api.OK)
	flat := fan(1 << 20)
	wantCheck(t, "MaxNodes", flat[:1<<20], api.OK)
	wantCheck(t, "one more", flat, api.ErrTree)
	deep := comb(append(slices.Repeat([]int{64}, 1<<14-1), 63)...)
	wantCheck(t, "MaxNodes, deep", deep, api.OK)
	wantCheck(t, "one more, deep", append(deep, api.Node{Kind: api.NkBox}), api.ErrTree)
}

// P7.1: more than MaxNodes counts before what is in any node.
func TestTooManyNodesCountFirst(t *testing.T) {
	for n, x := range map[int]api.Node{0: {Parent: -1, Start: 1}, 1: {Kind: api.NkBreak, Decl: api.Decl{Set: 256}}, 2: {Kind: api.NkText, Text: strings.Repeat("x", 1<<20+1)}} {
		l := fan(1 << 20)
		l[n] = x
		wantCheck(t, "one node too many", l, api.ErrTree)
		if e := arena.Check(l[:1<<20]); e == api.OK || e == api.ErrTree {
			t.Errorf("without it: %d", e)
		}
	}
}

// P7.1: the root.
func TestRoot(t *testing.T) {
	for kind := 1; kind < 256; kind++ {
		wantCheck(t, "a root of another Kind", []api.Node{{Kind: uint8(kind), Parent: -1}}, api.ErrTree)
	}
	for _, parent := range []int{0, 1, 2, -2, -3, 1 << 32, 1<<32 - 1, -1 << 32, math.MaxInt, math.MinInt, math.MinInt + 1} {
		wantCheck(t, "a root with another Parent", []api.Node{{Parent: parent}}, api.ErrTree)
		l := example()
		l[0].Parent = parent
		wantCheck(t, "a root with another Parent, and kids", l, api.ErrTree)
	}
	for n := 1; n < 6; n++ {
		for _, parent := range []int{-1, 0, n - 1} {
			l := chain(5)
			l[n] = api.Node{Parent: parent}
			wantCheck(t, "a second root", l, api.ErrTree)
			wantCheck(t, "a second root at the end", l[:n+1], api.ErrTree)
		}
	}
}

// validParent is the chapter's word of what a Parent may be, for the node n.
func validParent(l []api.Node, n int) bool {
	parent := l[n].Parent
	if n == 0 {
		return parent == -1
	}
	return parent == n-1 || isAbove(l, parent, n-1) && parent >= 0
}

// P7.1: all Parents that five boxes can have, from two below the root's to two behind the last one.
func TestAllParents(t *testing.T) {
	const n = 5
	var grow func(l []api.Node)
	grow = func(l []api.Node) {
		for parent := -2; parent < n+2; parent++ {
			longer := append(slices.Clone(l), api.Node{Kind: api.NkBox, Parent: parent})
			longer[0].Kind = api.NkRoot
			want := api.ErrTree
			if validParent(longer, len(longer)-1) {
				want = api.OK
			}
			wantCheck(t, "boxes", longer, want)
			if want == api.OK && len(longer) < n {
				grow(longer)
			}
		}
	}
	grow(nil)
}

// P7.1: Parents at each place of longer trees; a node behind is one that is fine by itself.
func TestParentsOfDrawnTrees(t *testing.T) {
	r := source()
	for range 40 {
		l := drawn(r, 2+r.IntN(30), 1+r.IntN(6))
		for n := range l {
			parents := []int{-1, -2, n, n + 1, len(l), len(l) + 1, 1 << 32, 1<<32 - 1, -1 << 32, math.MaxInt, math.MinInt}
			for parent := range n {
				parents = append(parents, parent)
			}
			for _, parent := range parents {
				changed := slices.Clone(l[:n+1])
				changed[n] = api.Node{Kind: api.NkBlock, Parent: parent}
				want := api.ErrTree
				if n > 0 && validParent(changed, n) && kidKinds(changed[parent].Kind) != nil {
					want = api.OK
				}
				wantCheck(t, "a block", changed, want)
			}
		}
	}
}

// P7.1: each Kind under a parent of each Kind, and beside it; kids of a text, and of a break.
func TestKinds(t *testing.T) {
	for above := range uint8(9) {
		for kind := range 256 {
			l := under(above)
			want := api.ErrTree
			if slices.Contains(kidKinds(above), uint8(kind)) {
				want = api.OK
			}
			l = append(l, api.Node{Kind: uint8(kind), Parent: len(l) - 1})
			wantCheck(t, "a kid", l, want)
			if want == api.OK { // another one of the same kind
				wantCheck(t, "two kids", append(l, l[len(l)-1]), api.OK)
			}
		}
	}
}

// P7.1: what is beside a text, or a break, is no kid of it.
func TestBesideWhatHasNoKids(t *testing.T) {
	for _, leaf := range []uint8{api.NkText, api.NkBreak} {
		for _, kind := range kidKinds(api.NkRoot) {
			l := append(under(leaf), api.Node{Kind: kind})
			wantCheck(t, "beside a leaf", l, api.OK)
			l[2].Parent = 1
			wantCheck(t, "in a leaf", l, api.ErrTree)
		}
	}
}

// P7.1: a parent of the parent does not count: neither for the kids of a ruby, nor for those of a flex.
func TestOnlyTheParentCounts(t *testing.T) {
	for _, kind := range []uint8{api.NkBase, api.NkNote} {
		for _, between := range []uint8{api.NkBox, api.NkBlock, api.NkRuby, api.NkBase, api.NkNote} {
			l := append(under(api.NkRuby), api.Node{Kind: between, Parent: 1}, api.Node{Kind: kind, Parent: 2})
			want := api.ErrTree
			if between == api.NkRuby {
				want = api.OK
			}
			wantCheck(t, "in a kid of a ruby", l, want)
			l[3].Parent = 1
			wantCheck(t, "beside a kid of a ruby", l, api.OK)
		}
	}
	for _, kind := range kidKinds(api.NkBlock) {
		l := append(under(api.NkFlex), api.Node{Kind: api.NkBlock, Parent: 1}, api.Node{Kind: kind, Parent: 2})
		wantCheck(t, "in a kid of a flex", l, api.OK)
		l[3].Grow = 1
		wantCheck(t, "in a kid of a flex, growing", l, api.ErrArg)
	}
}

// P7.1: the greatest depth, and one more; for nodes of each kind, and not at the end alone.
func TestDepths(t *testing.T) {
	wantCheck(t, "depth 63", chain(63), api.OK)
	wantCheck(t, "depth 64", chain(64), api.OK)
	wantCheck(t, "depth 65", chain(65), api.ErrDeep)
	wantCheck(t, "depth 200", chain(200), api.ErrDeep)
	for _, kind := range kidKinds(api.NkBox) {
		wantCheck(t, "a leaf at 64", append(chain(63), api.Node{Kind: kind, Parent: 63}), api.OK)
		wantCheck(t, "a leaf at 65", append(chain(64), api.Node{Kind: kind, Parent: 64}), api.ErrDeep)
	}
	for n := range 64 { // up again, and down from there: 64 nodes below the node n are too many
		l := append(chain(64), api.Node{Kind: api.NkBox, Parent: n})
		for depth := n + 2; depth <= 64; depth++ {
			l = append(l, api.Node{Kind: api.NkBox, Parent: len(l) - 1})
		}
		wantCheck(t, "up and down to 64", l, api.OK)
		wantCheck(t, "up and down to 65", append(l, api.Node{Kind: api.NkText, Parent: len(l) - 1}), api.ErrDeep)
	}
}

// field is one number of a node, with the least and the greatest one that is valid for a kind.
type field struct {
	name   string
	set    func(x *api.Node, n int64)
	bounds func(kind uint8, item bool) (least, most int64)
}

// only is bounds for some kinds; for others 0 is all that is valid.
func only(least, most int64, kinds ...uint8) func(uint8, bool) (int64, int64) {
	return func(kind uint8, _ bool) (int64, int64) {
		if slices.Contains(kinds, kind) {
			return least, most
		}
		return 0, 0
	}
}

// items is bounds for kids of a flex.
func items(_ uint8, item bool) (int64, int64) {
	if item {
		return 0, 1000
	}
	return 0, 0
}

// valigned is a field for the N of a Valign of this Kind.
func valigned(name string, kind uint8, least, most int64) field {
	return field{name, func(x *api.Node, n int64) {
		if kind != api.VaBaseline && slices.Contains([]uint8{2, 4, 5, 6}, x.Kind) {
			x.Valign.Kind = kind
		}
		x.Valign.N = n
	}, only(least, most, api.NkBox, api.NkBlock, api.NkFlex, api.NkRuby)}
}

func fields() []field {
	const unit = 1 << 30
	edged, sized := []uint8{api.NkBox, api.NkBlock, api.NkFlex}, []uint8{api.NkBlock, api.NkFlex}
	l := []field{
		{"Start", func(x *api.Node, n int64) { x.Start = n }, only(-unit, unit, edged...)},
		{"End", func(x *api.Node, n int64) { x.End = n }, only(-unit, unit, edged...)},
		{"Top", func(x *api.Node, n int64) { x.Top = n }, only(-unit, unit, sized...)},
		{"Bottom", func(x *api.Node, n int64) { x.Bottom = n }, only(-unit, unit, sized...)},
		{"Width", func(x *api.Node, n int64) { x.Width = n }, only(-1, unit, sized...)},
		{"Grow", func(x *api.Node, n int64) { x.Grow = int(n) }, items},
		{"Shrink", func(x *api.Node, n int64) { x.Shrink = int(n) }, items},
	}
	for kind := range uint8(10) {
		if kind == api.VaUnits || kind == api.VaTimes {
			l = append(l, valigned("Valign.N", kind, -unit, unit))
		} else {
			l = append(l, valigned("Valign.N", kind, 0, 0))
		}
	}
	return l
}

// numbers are those at both bounds and beside them, the extreme ones, and some whose lower words would be valid.
func numbers(least, most int64) []int64 {
	return []int64{least, least - 1, least - 2, least + 1, most, most + 1, most + 2, most - 1, 0, 1, -1, -2, 2, 999, 1000, 1001, -1000,
		1 << 30, 1<<30 + 1, -1 << 30, -1<<30 - 1, 1 << 31, -1 << 31, 1 << 32, 1<<32 + 1, -1 << 32, -1<<32 - 1, 1<<32 - 1, 1 << 62,
		math.MaxInt64, math.MaxInt64 - 1, math.MinInt64, math.MinInt64 + 1}
}

// places are all valid lists of under, each with a kid of each Kind that it may have, and a root alone.
func places() [][]api.Node {
	all := [][]api.Node{chain(0)}
	for above := range uint8(9) {
		for _, kind := range kidKinds(above) {
			l := under(above)
			all = append(all, append(l, api.Node{Kind: kind, Parent: len(l) - 1}))
		}
	}
	return all
}

// isItem reports whether the last node is a kid of a flex.
func isItem(l []api.Node) bool {
	parent := l[len(l)-1].Parent
	return parent >= 0 && l[parent].Kind == api.NkFlex
}

// P7.1: each number, for nodes of each kind, for kids of a flex and of others.
func TestFields(t *testing.T) {
	for _, l := range places() {
		last := &l[len(l)-1]
		kept := *last
		for _, f := range fields() {
			least, most := f.bounds(last.Kind, isItem(l))
			for _, n := range numbers(least, most) {
				f.set(last, n)
				want := api.ErrArg
				if least <= n && n <= most {
					want = api.OK
				}
				wantCheck(t, f.name, l, want)
				*last = kept
			}
		}
	}
}

// P7.1: each Kind of Valign, for nodes of each kind.
func TestValignKinds(t *testing.T) {
	for _, l := range places() {
		last := &l[len(l)-1]
		for kind := range 256 {
			last.Valign.Kind = uint8(kind)
			want := api.ErrArg
			if kind == 0 || kind < 10 && slices.Contains([]uint8{api.NkBox, api.NkBlock, api.NkFlex, api.NkRuby}, last.Kind) {
				want = api.OK
			}
			wantCheck(t, "Valign.Kind", l, want)
			if kind > 9 {
				for _, n := range []int64{1, -1, 1 << 30} {
					last.Valign.N = n
					wantCheck(t, "Valign.Kind and N", l, api.ErrArg)
				}
			}
			last.Valign.N = 0
		}
	}
}

// P7.1: a Text, for nodes of each kind.
func TestTextOfEachKind(t *testing.T) {
	for _, l := range places() {
		last := &l[len(l)-1]
		for _, text := range []string{"", "a", "\x00", "\xff\xfe", " \n", strings.Repeat("ä", 1000)} {
			last.Text = text
			want := api.ErrArg
			if text == "" || last.Kind == api.NkText {
				want = api.OK
			}
			wantCheck(t, "Text", l, want)
		}
	}
}

// P7.1: all that a node may have, together, at both ends.
func TestFullNodes(t *testing.T) {
	const unit = 1 << 30
	for _, l := range places() {
		last := &l[len(l)-1]
		kept := *last
		for _, end := range []func(least, most int64) int64{func(a, _ int64) int64 { return a }, func(_, b int64) int64 { return b }} {
			for _, f := range fields()[:7] {
				f.set(last, end(f.bounds(last.Kind, isItem(l))))
			}
			if slices.Contains([]uint8{api.NkBox, api.NkBlock, api.NkFlex, api.NkRuby}, last.Kind) {
				last.Valign = api.Valign{Kind: api.VaTimes, N: end(-unit, unit)}
			}
			last.Decl = api.Decl{Set: api.DeAll, Style: api.Style{White: 5, Word: 2, Wrap: 1, Line: 3, Tab: 64, Font: 63, Size: unit, HKind: 2, Height: unit}}
			wantCheck(t, "a full node", l, api.OK)
			*last = kept
		}
	}
}

// wrongDecls are declarations that are not valid.
func wrongDecls() []api.Decl {
	return []api.Decl{
		{Set: 256}, {Set: 1 << 15}, {Set: api.DeAll + 1}, {Style: api.Style{White: 1}}, {Set: 1, Style: api.Style{Word: 1}}, {Set: 1, Style: api.Style{White: 6}},
		{Set: api.DeTab, Style: api.Style{Tab: 65}}, {Set: api.DeFont, Style: api.Style{Font: -1}}, {Set: api.DeFont, Style: api.Style{Font: 64}},
		{Set: api.DeSize, Style: api.Style{Size: 1<<30 + 1}}, {Set: api.DeHeight, Style: api.Style{HKind: 3}}, {Set: api.DeHeight, Style: api.Style{Height: -1}},
	}
}

// P7.1: a Decl, for nodes of each kind.
func TestDecls(t *testing.T) {
	for _, l := range places() {
		last := &l[len(l)-1]
		for _, d := range wrongDecls() {
			last.Decl = d
			wantCheck(t, "a wrong Decl", l, api.ErrStyle)
		}
		for _, d := range []api.Decl{{}, {Set: 255}, {Set: api.DeTab, Style: api.Style{Tab: 64}}, {Set: api.DeHeight, Style: api.Style{HKind: 2, Height: 1 << 30}}} {
			last.Decl = d
			wantCheck(t, "a Decl", l, api.OK)
		}
	}
}

// texts are a root, and texts of these lengths, in boxes and beside them.
func texts(lengths ...int) []api.Node {
	l := chain(1)
	for i, length := range lengths {
		l = append(l, api.Node{Kind: api.NkText, Parent: max(0, 1-i), Text: strings.Repeat("\xe2", length)})
	}
	return l
}

// P7.1: as long as all texts may be together, and one byte more.
func TestLengths(t *testing.T) {
	const most = 1 << 20
	for _, lengths := range [][]int{{most}, {most - 1, 1}, {1, most - 1}, {0, most, 0}, {most / 2, 0, most / 2}, {1, 1, most - 2}} {
		wantCheck(t, "MaxText", texts(lengths...), api.OK)
		wantCheck(t, "MaxText, and a byte", texts(append(lengths, 1)...), api.ErrLong)
		for i := range lengths {
			longer := slices.Clone(lengths)
			longer[i]++
			wantCheck(t, "a byte more", texts(longer...), api.ErrLong)
		}
	}
	ones := slices.Repeat([]api.Node{{Kind: api.NkText, Text: "x"}}, 1<<20)
	ones[0] = api.Node{Parent: -1}
	wantCheck(t, "a byte less than MaxText, in as many texts", ones, api.OK)
	ones[1].Text = "xx"
	wantCheck(t, "MaxText in many texts", ones, api.OK)
	ones[len(ones)-1].Text = "äb"
	wantCheck(t, "more than MaxText in many texts", ones, api.ErrLong)
	for _, long := range []int{1 << 11, 1 << 12, 1<<12 + 1} { // together 2^31, 2^32 and more
		l := slices.Repeat([]api.Node{{Kind: api.NkText, Text: strings.Repeat("x", most)}}, long+1)
		l[0] = api.Node{Parent: -1}
		wantCheck(t, "one text many times", l, api.ErrLong)
	}
}

// fault is something that makes a node invalid.
type fault struct {
	e    api.Errno
	make func(x *api.Node)
}

// P7.1: which error is returned where one node has several: each set of faults of a box that is too deep, or is not.
func TestErrorsOfOneNode(t *testing.T) {
	trees := []fault{
		{api.ErrTree, func(x *api.Node) { x.Kind = 9 }},
		{api.ErrTree, func(x *api.Node) { x.Kind = 255 }},
		{api.ErrTree, func(x *api.Node) { x.Kind = api.NkRoot }},
		{api.ErrTree, func(x *api.Node) { x.Kind = api.NkBase }},
		{api.ErrTree, func(x *api.Node) { x.Parent++ }},
		{api.ErrTree, func(x *api.Node) { x.Parent = -1 }},
		{api.OK, func(x *api.Node) {}},
	}
	args := []fault{
		{api.ErrArg, func(x *api.Node) { x.Text = strings.Repeat("x", 1<<20+1) }}, // in a box: it is ErrLong, too
		{api.ErrArg, func(x *api.Node) { x.Width = 1 }},
		{api.ErrArg, func(x *api.Node) { x.Start = math.MinInt64 }},
		{api.ErrArg, func(x *api.Node) { x.Valign = api.Valign{Kind: api.VaTop, N: 1} }},
		{api.OK, func(x *api.Node) {}},
	}
	for _, tree := range trees {
		for _, depth := range []int{3, 64, 65} {
			for _, d := range []api.Decl{{}, {Set: 256}} {
				for _, arg := range args {
					l := chain(depth)
					x := &l[depth]
					tree.make(x)
					x.Decl = d
					arg.make(x)
					wantCheck(t, "one node", l, firstOf(tree.e, depth, d, arg.e))
				}
			}
		}
	}
}

// firstOf is the error of a box of this depth, with these faults.
func firstOf(tree api.Errno, depth int, d api.Decl, arg api.Errno) api.Errno {
	switch {
	case tree != api.OK:
		return tree
	case depth > 64:
		return api.ErrDeep
	case d.Set != 0:
		return api.ErrStyle
	}
	return arg
}

// P7.1: which error is returned where several nodes have one: that of the first node; what is too long counts last.
func TestErrorsOfSeveralNodes(t *testing.T) {
	faults := []fault{
		{api.ErrTree, func(x *api.Node) { x.Kind = 9 }},
		{api.ErrTree, func(x *api.Node) { x.Parent = 64 }},
		{api.ErrTree, func(x *api.Node) { x.Kind, x.Parent = api.NkRoot, -1 }},
		{api.ErrStyle, func(x *api.Node) { x.Decl.Set = 256 }},
		{api.ErrArg, func(x *api.Node) { x.Grow = 1 }},
		{api.ErrArg, func(x *api.Node) { x.Width = -2 }},
	}
	const n = 8
	for i := range n {
		for _, one := range faults {
			for _, long := range []bool{false, true} {
				l := append(chain(n-1), api.Node{Kind: api.NkText})
				if long {
					l[n].Text = strings.Repeat("x", 1<<20+1)
				}
				want := one.e
				one.make(&l[i])
				if i == 0 && l[0] == (api.Node{Parent: -1}) { // a root is no fault where the root is
					want = api.OK
				}
				if want == api.OK && long {
					want = api.ErrLong
				}
				wantCheck(t, "one fault", l, want)
				for j := i + 1; j < n && want == one.e; j++ {
					for _, two := range faults {
						both := slices.Clone(l)
						two.make(&both[j])
						wantCheck(t, "two faults", both, want)
					}
				}
			}
		}
	}
}

// P7.1: a node that is too deep, before and behind others that are not valid.
func TestErrDeepAmongOthers(t *testing.T) {
	for n := range 70 {
		for _, f := range []fault{{api.ErrStyle, func(x *api.Node) { x.Decl.Set = 256 }}, {api.ErrArg, func(x *api.Node) { x.Top = 1 }}, {api.ErrTree, func(x *api.Node) { x.Kind = 9 }}} {
			l := chain(69)
			f.make(&l[n])
			want := f.e
			if n > 65 || n == 65 && f.e != api.ErrTree {
				want = api.ErrDeep
			}
			wantCheck(t, "a long chain", l, want)
		}
	}
}

// P7.1: a kid of a text is where the fault is: what is not valid in the text counts before it.
func TestErrorsOfATextWithAKid(t *testing.T) {
	for _, leaf := range []uint8{api.NkText, api.NkBreak} {
		l := append(under(leaf), api.Node{Kind: api.NkText, Parent: 1, Start: 1, Decl: api.Decl{Set: 256}})
		wantCheck(t, "a kid", l, api.ErrTree)
		l[1].Start = 1
		wantCheck(t, "a kid of a leaf with a Start", l, api.ErrArg)
		l[1].Decl.Set = 256
		wantCheck(t, "a kid of a leaf with a wrong Decl", l, api.ErrStyle)
	}
	l := append(under(api.NkFlex), api.Node{Kind: api.NkText, Parent: 1})
	wantCheck(t, "a text in a flex", l, api.ErrTree)
	l[1].Width = -2
	wantCheck(t, "a text in a flex that is too narrow", l, api.ErrArg)
}
