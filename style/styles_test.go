package style_test

import (
	"math"
	"math/rand/v2"
	"slices"
	"testing"

	"stickful/api"
	"stickful/style"
)

// nearest is P6.5's style of the node n: each part from the nearest node, from n up, that declares it, or from base.
func nearest(base api.Style, parents []int, l []api.Decl, n int) api.Style {
	for _, f := range fields() {
		at := n
		for at >= 0 && l[at].Set&f.bit == 0 {
			at = parents[at]
		}
		if at >= 0 {
			f.set(&base, f.get(l[at].Style))
		}
	}
	return base
}

// checkStyles holds what Styles returns against each node's parent, and against the nearest declarations.
func checkStyles(t *testing.T, base api.Style, parents []int, l []api.Decl) {
	t.Helper()
	styles, e := style.Styles(base, parents, l)
	if e != api.OK || len(styles) != len(l) {
		t.Fatalf("Styles(%v, %v, %v) is %v, %d", base, parents, l, styles, e)
	}
	for i, got := range styles {
		above := base
		if parents[i] >= 0 {
			above = styles[parents[i]]
		}
		if want := mixed(above, l[i].Set, l[i].Style); got != want {
			t.Fatalf("Styles(%v, %v, %v): %d is %v, with its parent's %v", base, parents, l, i, got, want)
		}
		if want := nearest(base, parents, l, i); got != want {
			t.Fatalf("Styles(%v, %v, %v): %d is %v, with the nearest %v", base, parents, l, i, got, want)
		}
	}
}

// wantNone expects an error, and nothing else.
func wantNone(t *testing.T, base api.Style, parents []int, l []api.Decl, want api.Errno) {
	t.Helper()
	if styles, e := style.Styles(base, parents, l); styles != nil || e != want {
		t.Errorf("Styles(%v, %v, %v) is %v, %d, want %d", base, parents, l, styles, e, want)
	}
}

// tree is parents that are valid: a chain, two forks, and a second root.
func tree() []int { return []int{-1, 0, 1, 1, 0, -1, 5} }

// drawnDecls are n declarations that are valid.
func drawnDecls(r *rand.Rand, n int) []api.Decl {
	l := make([]api.Decl, n)
	for i := range l {
		l[i] = drawnDecl(r)
	}
	return l
}

// P6.3: the chapter's examples.
func TestStylesExamples(t *testing.T) {
	size := func(n int64) api.Decl { return api.Decl{Set: 64, Style: api.Style{Size: n}} }
	l, e := style.Styles(style.First(), []int{-1, 0, 0}, []api.Decl{size(640), {}, size(64)})
	if want := []api.Style{{Tab: 8, Size: 640}, {Tab: 8, Size: 640}, {Tab: 8, Size: 64}}; !slices.Equal(l, want) || e != api.OK {
		t.Error(l, e)
	}
	wantNone(t, style.First(), []int{0}, []api.Decl{{}}, api.ErrArg)
	wantNone(t, style.First(), []int{-1}, nil, api.ErrArg)
}

// P6.3: no nodes, in either form of an empty list.
func TestStylesOfNothing(t *testing.T) {
	for _, parents := range [][]int{nil, {}} {
		for _, l := range [][]api.Decl{nil, {}} {
			if styles, e := style.Styles(high(), parents, l); len(styles) != 0 || e != api.OK {
				t.Error(styles, e)
			}
			for _, s := range wrongStyles() {
				wantNone(t, s, parents, l, api.ErrStyle)
			}
		}
	}
}

// P6.3: one node, with each set of parts.
func TestStylesOfOneNode(t *testing.T) {
	for set := range uint16(256) {
		for _, base := range valids() {
			for _, s := range valids() {
				l, e := style.Styles(base, []int{-1}, []api.Decl{decl(set, s)})
				if want := []api.Style{mixed(base, set, s)}; !slices.Equal(l, want) || e != api.OK {
					t.Errorf("%v with %x of %v is %v, %d", base, set, s, l, e)
				}
			}
		}
	}
}

// P6.3, P6.5: all parents that up to six nodes can have.
func TestStylesOfAllSmallTrees(t *testing.T) {
	r := source()
	var grow func(parents []int)
	grow = func(parents []int) {
		for range 4 {
			checkStyles(t, drawnStyle(r), parents, drawnDecls(r, len(parents)))
		}
		if len(parents) == 6 {
			return
		}
		for parent := -1; parent < len(parents); parent++ {
			grow(append(slices.Clone(parents), parent))
		}
	}
	grow(nil)
}

// P6.3, P6.5: trees that are drawn at random, of all forms between a chain and a fork.
func TestStylesOfDrawnTrees(t *testing.T) {
	r := source()
	for n := range 200 {
		for _, reach := range []int{1, 2, 5, 30, 200} {
			parents := make([]int, n)
			for i := range parents {
				parents[i] = max(-1, i-1-r.IntN(reach))
			}
			checkStyles(t, drawnStyle(r), parents, drawnDecls(r, n))
		}
	}
}

// P6.3, P6.5: what the root of a long chain declares is in all nodes below, unless one between declares it.
func TestStylesOfALongChain(t *testing.T) {
	const n = 1 << 17
	parents, l := make([]int, n), make([]api.Decl, n)
	for i := range parents {
		parents[i] = i - 1
		if i%1000 == 0 {
			l[i] = api.Decl{Set: 32, Style: api.Style{Font: i / 1000 % 64}}
		}
	}
	l[0] = decl(255, low())
	styles, e := style.Styles(high(), parents, l)
	if e != api.OK || len(styles) != n {
		t.Fatal(len(styles), e)
	}
	for i, s := range styles {
		want := low()
		if i >= 1000 {
			want.Font = i / 1000 % 64
		}
		if s != want {
			t.Fatalf("%d: %v, want %v", i, s, want)
		}
	}
}

// P6.3, P6.5: nodes of one parent, and nodes of none, have nothing from each other.
func TestStylesOfForks(t *testing.T) {
	const n = 1 << 12
	for _, parent := range []int{-1, 0} {
		parents, l := make([]int, n), make([]api.Decl, n)
		for i := range parents {
			parents[i] = min(parent, i-1)
			l[i] = decl(uint16(i%256), low())
		}
		l[0] = decl(1, low())
		styles, e := style.Styles(high(), parents, l)
		if e != api.OK || len(styles) != n {
			t.Fatal(len(styles), e)
		}
		for i := 1; i < n; i++ {
			set := uint16(i % 256)
			if parent == 0 {
				set |= 1
			}
			if want := mixed(high(), set, low()); styles[i] != want {
				t.Fatalf("%d of the parent %d: %v, want %v", i, parent, styles[i], want)
			}
		}
	}
}

// P6.3: each place of a list may have each parent before it, and no other one.
func TestStylesParents(t *testing.T) {
	r := source()
	n := len(tree())
	for i := range n {
		parents := tree()
		for parent := -1; parent < i; parent++ {
			parents[i] = parent
			checkStyles(t, low(), parents, drawnDecls(r, n))
		}
		wrong := []int{-2, -3, -n, 1 << 31, 1 << 32, 1<<32 - 1, -1 << 32, -1<<32 - 1, math.MaxInt, math.MinInt, math.MinInt + 1}
		for parent := i; parent < n+2; parent++ { // itself, those behind it, and none at all
			wrong = append(wrong, parent)
		}
		for _, parent := range wrong {
			parents[i] = parent
			wantNone(t, low(), parents, drawnDecls(r, n), api.ErrArg)
		}
	}
}

// P6.3: a declaration for each parent.
func TestStylesLengths(t *testing.T) {
	r := source()
	for n := range len(tree()) + 1 {
		for m := range len(tree()) + 3 {
			if n == m {
				checkStyles(t, low(), tree()[:n], drawnDecls(r, m))
				continue
			}
			wantNone(t, low(), tree()[:n], drawnDecls(r, m), api.ErrArg)
		}
	}
}

// P6.3: base counts where nothing of it is left, too.
func TestStylesOfAWrongBase(t *testing.T) {
	all := slices.Repeat([]api.Decl{decl(255, low())}, len(tree()))
	checkStyles(t, high(), tree(), all)
	for _, s := range wrongStyles() {
		wantNone(t, s, tree(), all, api.ErrStyle)
		wantNone(t, s, []int{-1}, []api.Decl{{}}, api.ErrStyle)
	}
}

// P6.3: a declaration at any place.
func TestStylesOfAWrongDecl(t *testing.T) {
	for _, d := range wrongDecls() {
		wantNone(t, low(), []int{-1}, []api.Decl{d}, api.ErrStyle)
		for i := range tree() {
			l := make([]api.Decl, len(tree()))
			l[i] = d
			wantNone(t, low(), tree(), l, api.ErrStyle)
		}
	}
}

// P6.3: ErrArg is returned before ErrStyle, wherever the two are.
func TestStylesOrderOfErrors(t *testing.T) {
	wrong, decls := api.Style{Tab: 65}, make([]api.Decl, 3)
	decls[0].Set = 256
	for _, base := range []api.Style{low(), wrong} {
		wantNone(t, base, []int{-1, 0, 1}, decls, api.ErrStyle)
		for _, parents := range [][]int{{-1, 0, 2}, {0, 0, 0}, {-1, -2, 0}, {-1, 0}, {-1, 0, 1, 2}, nil} {
			wantNone(t, base, parents, decls, api.ErrArg)
		}
	}
	for _, parents := range [][]int{{0, 0, 1}, {-1, 0, 3}, {-1, 0}, {-1, 0, 1, 2}, nil} {
		wantNone(t, wrong, parents, make([]api.Decl, 3), api.ErrArg)
	}
	wantNone(t, wrong, []int{-1}, nil, api.ErrArg)
	wantNone(t, wrong, nil, []api.Decl{{Set: 256}}, api.ErrArg)
}

// R4, R5: what is passed, and what is behind it in its memory, is not changed, does not count, and is not kept.
func TestArgumentsStay(t *testing.T) {
	r := source()
	n := len(tree())
	parents, l := append(tree(), -9, 99), append(drawnDecls(r, n), api.Decl{Set: 256}, decl(255, high()))
	keptParents, keptDecls := slices.Clone(parents), slices.Clone(l)
	before, e := style.Styles(low(), parents[:n], l[:n])
	if e != api.OK {
		t.Fatal(e)
	}
	want := slices.Clone(before)
	clear(before[:cap(before)])
	after, e := style.Styles(low(), parents[:n], l[:n])
	if e != api.OK || !slices.Equal(after, want) {
		t.Errorf("%v, %d after %v", after, e, want)
	}
	if !slices.Equal(parents, keptParents) || !slices.Equal(l, keptDecls) {
		t.Errorf("the lists became %v, %v", parents, l)
	}
	clear(parents)
	clear(l)
	if !slices.Equal(after, want) || slices.Equal(before, want) {
		t.Errorf("the results became %v, %v", before, after)
	}
}
