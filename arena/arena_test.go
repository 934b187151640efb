package arena_test

import (
	"math"
	"math/rand/v2"
	"slices"
	"testing"
	"unsafe"

	"stickful/api"
	"stickful/arena"
	"stickful/style"
)

// example is the chapter's tree T.
func example() []api.Node {
	return []api.Node{
		{Parent: -1},
		{Kind: api.NkBox},
		{Kind: api.NkText, Parent: 1, Text: "a"},
		{Kind: api.NkBlock, Parent: 1},
		{Kind: api.NkText, Parent: 3, Text: "b"},
		{Kind: api.NkText, Text: "c"},
	}
}

// boxes are nodes with these parents: the first one is a root, the others are boxes.
func boxes(parents ...int) []api.Node {
	l := make([]api.Node, len(parents))
	for n, parent := range parents {
		l[n] = api.Node{Kind: api.NkBox, Parent: parent}
	}
	if len(l) > 0 {
		l[0].Kind = api.NkRoot
	}
	return l
}

// chain is a root, and depth boxes, each in the one before it.
func chain(depth int) []api.Node {
	var parents []int
	for n := range depth + 1 {
		parents = append(parents, n-1)
	}
	return boxes(parents...)
}

// fan is a root, and that many breaks in it.
func fan(kids int) []api.Node {
	l := slices.Repeat([]api.Node{{Kind: api.NkBreak}}, kids+1)
	l[0] = api.Node{Parent: -1}
	return l
}

// comb is a root with chains of boxes in it: their lengths are those of the list.
func comb(lengths ...int) []api.Node {
	parents := []int{-1}
	for _, length := range lengths {
		for n := range length {
			parent := 0
			if n > 0 {
				parent = len(parents) - 1
			}
			parents = append(parents, parent)
		}
	}
	return boxes(parents...)
}

// allSmall are all trees of n nodes, or of fewer.
func allSmall(n int) [][]api.Node {
	var all [][]api.Node
	var grow func(parents []int)
	grow = func(parents []int) {
		all = append(all, boxes(parents...))
		if len(parents) == n {
			return
		}
		for parent := len(parents) - 1; parent >= 0; parent = parents[parent] {
			grow(append(slices.Clone(parents), parent))
		}
	}
	grow([]int{-1})
	return all
}

// source draws the same numbers in each run.
func source() *rand.Rand { return rand.New(rand.NewPCG(7, 70)) }

// drawn is a tree of n nodes of all kinds: the less steep, the more its nodes are beside each other.
func drawn(r *rand.Rand, n, steep int) []api.Node {
	l := []api.Node{{Parent: -1}}
	for len(l) < n {
		parent := len(l) - 1
		for parent > 0 && (len(kidKinds(l[parent].Kind)) == 0 || len(aboveOf(l, parent)) > 63 || r.IntN(steep) == 0) {
			parent = l[parent].Parent
		}
		kinds := kidKinds(l[parent].Kind)
		l = append(l, drawnNode(r, kinds[r.IntN(len(kinds))], parent))
	}
	return l
}

// drawnNode is valid, of this kind.
func drawnNode(r *rand.Rand, kind uint8, parent int) api.Node {
	x := api.Node{Kind: kind, Parent: parent}
	if kind == api.NkText {
		x.Text = "any text"[:r.IntN(9)]
	}
	if r.IntN(2) == 0 {
		x.Decl = api.Decl{Set: api.DeSize, Style: api.Style{Size: r.Int64N(2048)}}
	}
	if r.IntN(3) == 0 {
		x.Decl.Set, x.Decl.Style.Font = x.Decl.Set|api.DeFont, r.IntN(64)
	}
	return x
}

// kidKinds are the kinds that kids of a node of this kind may have, by the chapter's words.
func kidKinds(kind uint8) []uint8 {
	switch kind {
	case api.NkText, api.NkBreak:
		return nil
	case api.NkFlex:
		return []uint8{api.NkBlock}
	case api.NkRuby:
		return []uint8{1, 2, 3, 4, 5, 6, 7, 8}
	}
	return []uint8{1, 2, 3, 4, 5, 6}
}

// aboveOf are the nodes above n, the nearest one first.
func aboveOf(l []api.Node, n int) []int {
	var up []int
	for n = l[n].Parent; n >= 0; n = l[n].Parent {
		up = append(up, n)
	}
	return up
}

// isAbove reports whether up is above n.
func isAbove(l []api.Node, up, n int) bool { return slices.Contains(aboveOf(l, n), up) }

func kidsOf(l []api.Node, n int) []int {
	var kids []int
	for kid := range l {
		if l[kid].Parent == n {
			kids = append(kids, kid)
		}
	}
	return kids
}

func endOf(l []api.Node, n int) int {
	last := n
	for other := range l {
		if isAbove(l, n, other) {
			last = other
		}
	}
	return last + 1
}

func contextOf(l []api.Node, n int) int {
	if n == 0 {
		return 0
	}
	for _, up := range aboveOf(l, n) {
		switch l[up].Kind {
		case api.NkRoot, api.NkBlock, api.NkFlex, api.NkRuby, api.NkBase, api.NkNote:
			return up
		}
	}
	return -1
}

// commonOf tries all nodes.
func commonOf(l []api.Node, a, b int) int {
	best, depth := -1, -1
	for n := range l {
		if (n == a || isAbove(l, n, a)) && (n == b || isAbove(l, n, b)) && len(aboveOf(l, n)) > depth {
			best, depth = n, len(aboveOf(l, n))
		}
	}
	return best
}

func walkOf(l []api.Node, n int) []api.Stop {
	stops := []api.Stop{{Node: n, In: true}}
	for _, kid := range kidsOf(l, n) {
		stops = append(stops, walkOf(l, kid)...)
	}
	return append(stops, api.Stop{Node: n, In: false})
}

// made is New of a list that is valid.
func made(t *testing.T, l []api.Node) *arena.Tree {
	t.Helper()
	x, e := arena.New(l)
	if e != api.OK || x == nil || x.Len() != len(l) {
		t.Fatalf("New of %d nodes is %v, %d", len(l), x, e)
	}
	return x
}

// checkTree holds each node's answers against those that the words of the chapter give.
func checkTree(t *testing.T, l []api.Node) *arena.Tree {
	t.Helper()
	x := made(t, l)
	for n := range l {
		if got, e := x.Node(n); got != l[n] || e != api.OK {
			t.Fatalf("%v: Node(%d) is %v, %d", l, n, got, e)
		}
		wantNumber(t, "Depth", n, x.Depth, len(aboveOf(l, n)))
		wantNumber(t, "End", n, x.End, endOf(l, n))
		wantNumber(t, "Context", n, x.Context, contextOf(l, n))
		if got, e := x.Kids(n); !slices.Equal(got, kidsOf(l, n)) || e != api.OK {
			t.Fatalf("%v: Kids(%d) is %v, %d", l, n, got, e)
		}
		if got := x.Walk(n); !slices.Equal(got, walkOf(l, n)) {
			t.Fatalf("%v: Walk(%d) is %v", l, n, got)
		}
	}
	return x
}

func wantNumber(t *testing.T, name string, n int, call func(int) (int, api.Errno), want int) {
	t.Helper()
	if got, e := call(n); got != want || e != api.OK {
		t.Fatalf("%s(%d) is %d, %d, want %d", name, n, got, e, want)
	}
}

// checkCommon holds Common of all pairs against the words of the chapter.
func checkCommon(t *testing.T, x *arena.Tree, l []api.Node) {
	t.Helper()
	for a := range l {
		for b := range l {
			if got, e := x.Common(a, b); got != commonOf(l, a, b) || e != api.OK {
				t.Fatalf("%v: Common(%d, %d) is %d, %d", l, a, b, got, e)
			}
		}
	}
}

// P7.1 to P7.4: the chapter's examples.
func TestExamples(t *testing.T) {
	x := made(t, example())
	for n, want := range map[int][]int{0: {1, 5}, 1: {2, 3}} {
		if got, e := x.Kids(n); !slices.Equal(got, want) || e != api.OK {
			t.Error(n, got, e)
		}
	}
	wantNumber(t, "End", 1, x.End, 5)
	wantNumber(t, "Depth", 4, x.Depth, 3)
	wantNumber(t, "Context", 2, x.Context, 0)
	wantNumber(t, "Context", 4, x.Context, 3)
	wantNumber(t, "Context", 3, x.Context, 0)
	for _, w := range [][3]int{{2, 4, 1}, {4, 5, 0}, {1, 4, 1}} {
		if got, e := x.Common(w[0], w[1]); got != w[2] || e != api.OK {
			t.Error(w, got, e)
		}
	}
	want := []api.Stop{{Node: 1, In: true}, {Node: 2, In: true}, {Node: 2}, {Node: 3, In: true}, {Node: 4, In: true}, {Node: 4}, {Node: 3}, {Node: 1}}
	if got := x.Walk(1); !slices.Equal(got, want) {
		t.Error(got)
	}
}

// P7.1 to P7.4: a tree of one node.
func TestOneNode(t *testing.T) {
	x := checkTree(t, chain(0))
	checkCommon(t, x, chain(0))
	if got := x.Walk(0); !slices.Equal(got, []api.Stop{{Node: 0, In: true}, {Node: 0, In: false}}) {
		t.Error(got)
	}
	if l, e := x.Kids(0); len(l) != 0 || e != api.OK {
		t.Error(l, e)
	}
}

// P7.1 to P7.4, P7.7: all trees of up to seven nodes.
func TestAllSmallTrees(t *testing.T) {
	for _, l := range allSmall(7) {
		checkCommon(t, checkTree(t, l), l)
	}
}

// P7.1 to P7.4, P7.7: trees of all kinds of nodes, flat ones and steep ones.
func TestDrawnTrees(t *testing.T) {
	r := source()
	for range 20 {
		for _, steep := range []int{1, 2, 3, 5, 20} {
			l := drawn(r, 1+r.IntN(40), steep)
			checkCommon(t, checkTree(t, l), l)
		}
	}
}

// P7.2: each kind of node between a node and the root, and two of each kind, one in the other.
func TestContextOfEachKind(t *testing.T) {
	for kind := range uint8(9) {
		for other := range uint8(9) {
			l := under(kind)
			if !slices.Contains(kidKinds(kind), other) {
				continue
			}
			l = append(l, api.Node{Kind: other, Parent: len(l) - 1})
			if kids := kidKinds(other); kids != nil {
				l = append(l, api.Node{Kind: kids[len(kids)-1], Parent: len(l) - 1})
			}
			checkTree(t, l)
		}
	}
}

// P7.2 to P7.4: the longest chain: all of its nodes end at one place.
func TestLongestChain(t *testing.T) {
	l := chain(64)
	x := checkTree(t, l)
	checkCommon(t, x, l)
	for n := range l {
		wantNumber(t, "Depth", n, x.Depth, n)
		wantNumber(t, "End", n, x.End, 65)
		wantNumber(t, "Context", n, x.Context, 0)
	}
}

// P7.2 to P7.4: boxes that end at one place, with something behind them, and something before.
func TestBoxesThatEndTogether(t *testing.T) {
	for _, l := range [][]api.Node{comb(3), comb(3, 1), comb(1, 3, 1), comb(5, 5, 5), comb(1, 1, 1, 1), comb(20, 1, 20), boxes(-1, 0, 1, 2, 1, 4, 0, 6, 7, 8, 7, 6)} {
		checkCommon(t, checkTree(t, l), l)
	}
}

// P7.2 to P7.4: as many kids as there may be.
func TestManyKids(t *testing.T) {
	const most = 1<<20 - 1
	x := made(t, fan(most))
	kids, e := x.Kids(0)
	if e != api.OK || len(kids) != most {
		t.Fatal(len(kids), e)
	}
	stops := x.Walk(0)
	if len(stops) != 2*most+2 || stops[0] != (api.Stop{Node: 0, In: true}) || stops[2*most+1] != (api.Stop{Node: 0, In: false}) {
		t.Fatal(len(stops))
	}
	wantNumber(t, "End", 0, x.End, most+1)
	for i, kid := range kids {
		if kid != i+1 || stops[2*i+1] != (api.Stop{Node: kid, In: true}) || stops[2*i+2] != (api.Stop{Node: kid, In: false}) {
			t.Fatal(i, kid)
		}
		wantNumber(t, "End", kid, x.End, kid+1)
		wantNumber(t, "Depth", kid, x.Depth, 1)
		if got, e := x.Common(kid, most); got != 0 && kid != most || e != api.OK {
			t.Fatal(kid, got, e)
		}
	}
}

// P7.2 to P7.4: as many chains of the greatest depth as there may be.
func TestManyChains(t *testing.T) {
	l := comb(slices.Repeat([]int{64}, 1<<14-1)...)
	x := made(t, l)
	for n := 1; n < len(l); n++ {
		first, depth := (n-1)/64*64+1, (n-1)%64+1
		wantNumber(t, "Depth", n, x.Depth, depth)
		wantNumber(t, "End", n, x.End, first+64)
		wantNumber(t, "Context", n, x.Context, 0)
		if got, e := x.Common(first, n); got != first || e != api.OK {
			t.Fatal(n, got, e)
		}
		if got, e := x.Common(n, 1); got != 0 && first != 1 || e != api.OK {
			t.Fatal(n, got, e)
		}
	}
	if got := x.Walk(0); len(got) != 2*len(l) {
		t.Fatal(len(got))
	}
}

// P7.6
func TestWalkEntersAndLeavesAllThatIsWithin(t *testing.T) {
	r := source()
	for range 100 {
		l := drawn(r, 1+r.IntN(40), 1+r.IntN(8))
		x := made(t, l)
		for n := range l {
			checkStops(t, l, n, x.Walk(n))
		}
	}
}

// checkStops looks for where each node is entered and left, without following the traversal.
func checkStops(t *testing.T, l []api.Node, n int, stops []api.Stop) {
	t.Helper()
	entered, in, out := []int{}, make([]int, len(l)), make([]int, len(l))
	for at, s := range stops {
		if s.In {
			entered = append(entered, s.Node)
			in[s.Node] = at
		} else {
			out[s.Node] = at
		}
	}
	if 2*len(entered) != len(stops) || !slices.IsSorted(entered) {
		t.Fatalf("%v: Walk(%d) enters %v of %v", l, n, entered, stops)
	}
	within := []int{}
	for other := range l {
		if other == n || isAbove(l, n, other) {
			within = append(within, other)
		}
	}
	if !slices.Equal(entered, within) {
		t.Fatalf("%v: Walk(%d) enters %v, want %v", l, n, entered, within)
	}
	for _, up := range within {
		for at, s := range stops {
			if (in[up] < at && at < out[up]) != isAbove(l, up, s.Node) {
				t.Fatalf("%v: Walk(%d): %v while in %d: %v", l, n, s, up, stops)
			}
		}
	}
}

// P7.7
func TestCommonDoesNotDependOnTheOrder(t *testing.T) {
	r := source()
	for range 100 {
		l := drawn(r, 1+r.IntN(60), 1+r.IntN(8))
		x := made(t, l)
		for a := range l {
			for b := range l {
				one, e := x.Common(a, b)
				two, f := x.Common(b, a)
				if one != two || e != api.OK || f != api.OK {
					t.Fatalf("%v: Common(%d, %d) is %d, the other way %d", l, a, b, one, two)
				}
				if (one == a) != (a == b || isAbove(l, a, b)) || (one == b) != (a == b || isAbove(l, b, a)) {
					t.Fatalf("%v: Common(%d, %d) is %d", l, a, b, one)
				}
			}
		}
	}
}

// wantNothing expects an error, and nothing else, of each method that is passed a node.
func wantNothing(t *testing.T, x *arena.Tree, n int, want api.Errno) {
	t.Helper()
	if got, e := x.Node(n); got != (api.Node{}) || e != want {
		t.Errorf("Node(%d) is %v, %d, want %d", n, got, e, want)
	}
	if got, e := x.Kids(n); len(got) != 0 || e != want {
		t.Errorf("Kids(%d) is %v, %d, want %d", n, got, e, want)
	}
	for name, call := range map[string]func(int) (int, api.Errno){
		"Depth": x.Depth, "End": x.End, "Context": x.Context,
		"Common with 0":  func(n int) (int, api.Errno) { return x.Common(n, 0) },
		"Common of 0":    func(n int) (int, api.Errno) { return x.Common(0, n) },
		"Common of both": func(n int) (int, api.Errno) { return x.Common(n, n) },
	} {
		if got, e := call(n); got != 0 || e != want {
			t.Errorf("%s(%d) is %d, %d, want %d", name, n, got, e, want)
		}
	}
	if got := x.Walk(n); len(got) != 0 {
		t.Errorf("Walk(%d) is %v", n, got)
	}
}

// P7.1 to P7.5: what New did not return is no tree, whatever it is asked for.
func TestNoTree(t *testing.T) {
	for _, x := range []*arena.Tree{nil, {}, new(arena.Tree)} {
		if x.Len() != 0 {
			t.Error(x.Len())
		}
		for _, n := range []int{0, 1, -1, 1 << 20, math.MaxInt, math.MinInt} {
			wantNothing(t, x, n, api.ErrNil)
		}
		for _, base := range []api.Style{{}, style.First(), {Tab: 65}} {
			if l, e := x.Styles(base); len(l) != 0 || e != api.ErrNil {
				t.Error(l, e)
			}
		}
	}
}

// P7.1 to P7.4: nodes below 0, and behind the last one.
func TestNoNode(t *testing.T) {
	for _, l := range [][]api.Node{chain(0), chain(1), chain(64), fan(5), example()} {
		x := made(t, l)
		for _, n := range []int{-1, -2, -len(l), len(l), len(l) + 1, 1 << 20, 1 << 32, -1 << 32, math.MaxInt, math.MinInt} {
			wantNothing(t, x, n, api.ErrNone)
		}
	}
}

// P7.5: what layer 6 returns, and the nearest declaration above each node.
func TestStyles(t *testing.T) {
	r := source()
	for range 100 {
		l := drawn(r, 1+r.IntN(60), 1+r.IntN(6))
		var parents []int
		var decls []api.Decl
		for _, x := range l {
			parents, decls = append(parents, x.Parent), append(decls, x.Decl)
		}
		for _, base := range []api.Style{{}, style.First(), {White: 5, Tab: 64, Font: 63, Size: 1 << 30, HKind: 2, Height: 9}} {
			want, e := style.Styles(base, parents, decls)
			got, f := made(t, l).Styles(base)
			if e != api.OK || f != api.OK || !slices.Equal(got, want) {
				t.Fatalf("%v: Styles(%v) is %v, %d, want %v", l, base, got, f, want)
			}
			for n, s := range got {
				if s != nearest(l, n, base) {
					t.Fatalf("%v: Styles(%v): %d is %v", l, base, n, s)
				}
			}
		}
	}
}

// nearest is the style of n by what it, and the nodes above it, declare of the two parts that are drawn.
func nearest(l []api.Node, n int, base api.Style) api.Style {
	up := append([]int{n}, aboveOf(l, n)...)
	for _, at := range slices.Backward(up) {
		if d := l[at].Decl; d.Set&api.DeSize != 0 {
			base.Size = d.Style.Size
		}
		if d := l[at].Decl; d.Set&api.DeFont != 0 {
			base.Font = d.Style.Font
		}
	}
	return base
}

// P7.5
func TestStylesOfAWrongBase(t *testing.T) {
	all := example()
	all[0].Decl = api.Decl{Set: api.DeAll, Style: style.First()} // nothing of base is left
	for _, l := range [][]api.Node{chain(0), example(), all} {
		for _, base := range []api.Style{{White: 6}, {Word: 3}, {Wrap: 2}, {Line: 4}, {Tab: -1}, {Tab: 65}, {Font: 64}, {Size: -1}, {Size: 1<<30 + 1}, {HKind: 3}, {Height: -1}} {
			if got, e := made(t, l).Styles(base); len(got) != 0 || e != api.ErrStyle {
				t.Errorf("Styles(%v) is %v, %d", base, got, e)
			}
		}
	}
}

// P7.1, R5: a tree does not change with the list that it was made of, and Check and New change nothing of that, nor behind it.
func TestListIsNotKept(t *testing.T) {
	l := example()
	behind := []api.Node{{Kind: 9, Parent: 99, Text: "x"}, {Kind: api.NkBox}}
	whole := append(slices.Clone(l), behind...)
	if e := arena.Check(whole[:len(l)]); e != api.OK {
		t.Fatal(e)
	}
	x := made(t, whole[:len(l)])
	if !slices.Equal(whole, append(slices.Clone(l), behind...)) {
		t.Errorf("the list became %v", whole)
	}
	for n := range whole {
		whole[n] = api.Node{Kind: 200, Parent: 50, Text: "other"}
	}
	y := made(t, l)
	for n := range l {
		got, _ := x.Node(n)
		if got != l[n] || !slices.Equal(x.Walk(n), y.Walk(n)) {
			t.Errorf("%d became %v", n, got)
		}
		wantNumber(t, "Context", n, x.Context, contextOf(l, n))
		if got.Text != "" && unsafe.StringData(got.Text) == unsafe.StringData(l[n].Text) {
			t.Errorf("the text of %d is the one that was passed", n)
		}
	}
	clear(whole)
	if got, _ := x.Node(4); got != l[4] {
		t.Errorf("4 became %v", got)
	}
}

// P7.2, P7.4, P7.5, R5: an answer that the caller changes, up to its capacity, changes no other one.
func TestAnswersAreNotKept(t *testing.T) {
	l := example()
	l[1].Decl = api.Decl{Set: api.DeFont, Style: api.Style{Font: 3}}
	x := made(t, l)
	for range 2 {
		checkTree(t, l)
		for n := range l {
			kids, _ := x.Kids(n)
			other, _ := x.Kids(n)
			fill(kids, -7)
			if again, _ := x.Kids(n); !slices.Equal(other, kidsOf(l, n)) || !slices.Equal(again, other) {
				t.Errorf("Kids(%d) became %v, %v", n, other, again)
			}
			walk := x.Walk(n)
			fill(walk, api.Stop{Node: -7})
			if again := x.Walk(n); !slices.Equal(again, walkOf(l, n)) {
				t.Errorf("Walk(%d) became %v", n, again)
			}
			node, _ := x.Node(n)
			node.Text, node.Parent, node.Decl.Set = "changed", 77, 9
			if again, _ := x.Node(n); again != l[n] {
				t.Errorf("Node(%d) became %v", n, again)
			}
		}
		styles, _ := x.Styles(style.First())
		want := slices.Clone(styles)
		fill(styles, api.Style{Tab: 65})
		if again, e := x.Styles(style.First()); e != api.OK || !slices.Equal(again, want) || again[2].Font != 3 {
			t.Errorf("Styles became %v, %d", again, e)
		}
	}
}

// fill sets all of l, and what is behind it in its memory.
func fill[E any](l []E, e E) {
	l = l[:cap(l)]
	for i := range l {
		l[i] = e
	}
}
