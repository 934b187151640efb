package chance_test

import (
	"math"
	"math/rand/v2"
	"slices"
	"testing"

	"stickful/api"
	"stickful/chance"
	"stickful/class"
	"stickful/pair"
)

// words is a place of a list, of which all is found anew by the chapter's words.
type words struct {
	l     []api.Char
	s     []api.Style
	rules []int
	i     int
}

// kind reports whether the character at i has one of the Kinds.
func (w words) kind(i int, kinds ...uint8) bool { return slices.Contains(kinds, w.l[i].Kind) }

// text reports whether the character at i is a text's, whose R has one of the classes.
func (w words) text(i int, classes ...uint8) bool {
	return w.kind(i, api.ChText) && slices.Contains(classes, class.Of(w.l[i].R))
}

func (w words) mark(i int) bool { return w.text(i, api.ClCM) }

func (w words) letter(i int) bool {
	return w.text(i, api.ClAL, api.ClNU, api.ClID, api.ClCJ, api.ClNS)
}

// ruled is the place's style.
func (w words) ruled() api.Style { return w.s[w.rules[w.i]] }

func (w words) anywhere() bool { return w.ruled().Line == api.LnAnywhere }

// breaks finds the place's part, and asks layer 9 about that; a place before a forced break is in none.
func (w words) breaks() bool {
	from, to := w.i, w.i
	for from > 0 && !w.kind(from-1, api.ChForced) {
		from--
	}
	for to < len(w.l) && !w.kind(to, api.ChForced) {
		to++
	}
	var classes []uint8
	for _, c := range w.l[from:to] {
		classes = append(classes, classByWords(c, w.s[c.Node]))
	}
	return w.i < to && pair.Breaks(classes)[w.i-from]
}

// classByWords makes the changes one after the other, as the chapter does.
func classByWords(c api.Char, s api.Style) uint8 {
	switch c.Kind {
	case api.ChSpace, api.ChHang, api.ChKeep, api.ChTab:
		return api.ClSP
	case api.ChAtom:
		return api.ClCB
	}
	if c.Kind != api.ChText {
		return api.ClBK
	}
	is := class.Of(c.R)
	if is == api.ClCJ && s.Line != api.LnStrict {
		is = api.ClID
	} else if is == api.ClCJ {
		is = api.ClNS
	}
	if is == api.ClNS && s.Line == api.LnLoose {
		is = api.ClID
	}
	if (is == api.ClAL || is == api.ClNU) && s.Word == api.WoBreakAll {
		is = api.ClID
	}
	return is
}

// condition is a row of the chapter's table.
type condition struct {
	is    uint8
	holds func(w words) bool
}

// conditions are the rows, of which the first one that holds counts: the first three are the chapter's first one, which has as many parts.
func conditions() []condition {
	return []condition{
		{0, func(w words) bool { return w.i == 0 }},
		{0, func(w words) bool { return w.kind(w.i-1, api.ChForced) || w.kind(w.i, api.ChForced) }},
		{0, func(w words) bool { return w.ruled().White == api.WhNowrap || w.ruled().White == api.WhPre }},
		{1, func(w words) bool {
			return w.kind(w.i-1, api.ChKeep, api.ChTab) && w.s[w.l[w.i-1].Node].White == api.WhBreakSpaces
		}},
		{0, func(w words) bool { return w.kind(w.i, api.ChSpace, api.ChHang) }},
		{0, func(w words) bool { return w.anywhere() && w.mark(w.i) }},
		{1, func(w words) bool { return w.anywhere() }},
		{1, func(w words) bool {
			between := w.letter(w.i-1) && w.letter(w.i)
			return w.breaks() && !(between && w.ruled().Word == api.WoKeepAll)
		}},
		{2, func(w words) bool { return w.ruled().Wrap == api.WrAnywhere && !w.mark(w.i) }},
		{0, func(words) bool { return true }},
	}
}

// places of the rows among the conditions.
const (
	rowFirst = iota
	rowForced
	rowWhole
	rowOwn
	rowSpace
	rowMark
	rowAnywhere
	rowPairs
	rowWrap
	rowLast
	rowCount
)

// first is which condition is the first one that holds.
func (w words) first(rows []condition) int {
	return slices.IndexFunc(rows, func(x condition) bool { return x.holds(w) })
}

// byWords is what is at each place.
func byWords(l []api.Char, s []api.Style, rules []int) []uint8 {
	rows := conditions()
	all := make([]uint8, len(l))
	for i := range l {
		all[i] = rows[words{l, s, rules, i}.first(rows)].is
	}
	return all
}

// check holds what is said of l against the chapter's words.
func check(t *testing.T, l []api.Char, s []api.Style, rules []int) {
	t.Helper()
	got, e := chance.Chances(l, s, rules)
	if want := byWords(l, s, rules); e != api.OK || !slices.Equal(got, want) {
		t.Fatalf("%v, %v, %v: %v, %d, want %v", l, s, rules, got, e, want)
	}
}

// Values of each part of a style: all that there are, and one that is none.
var (
	whites     = []uint8{api.WhNormal, api.WhNowrap, api.WhPre, api.WhPreWrap, api.WhPreLine, api.WhBreakSpaces, 6}
	wordBreaks = []uint8{api.WoNormal, api.WoBreakAll, api.WoKeepAll, 3}
	wraps      = []uint8{api.WrNormal, api.WrAnywhere, 2}
	lines      = []uint8{api.LnNormal, api.LnLoose, api.LnStrict, api.LnAnywhere, 4}
)

// allStyles are all of these.
func allStyles() []api.Style {
	var l []api.Style
	for _, white := range whites {
		for _, word := range wordBreaks {
			for _, wrap := range wraps {
				for _, line := range lines {
					l = append(l, api.Style{White: white, Word: word, Wrap: wrap, Line: line})
				}
			}
		}
	}
	return l
}

// symbols are characters of all Kinds, those of a text with an R of each class that matters, and others with such an R.
func symbols() []api.Char {
	l := list("a1漢ぁ々\u0301(),-\u00a0\u2028\u200b")
	for kind := range api.ChAtom + 1 {
		for _, r := range []int32{'a', 0x301} {
			if kind != api.ChText {
				l = append(l, api.Char{R: r, Kind: kind})
			}
		}
	}
	return append(l, api.Char{R: ' '}, api.Char{R: '\t'}, api.Char{R: '\n'}, api.Char{R: 0xfffc})
}

// pairsOf are all lists of two symbols in one list, with a forced break after each; own is the node of the first of each two, other that of the second.
func pairsOf(own, other int) []api.Char {
	var l []api.Char
	for _, a := range symbols() {
		for _, b := range symbols() {
			a.Node, b.Node = own, other
			l = append(l, a, b, api.Char{Kind: api.ChForced, Node: own})
		}
	}
	return l
}

// ownStyles are styles of characters that differ in what counts for characters themselves.
func ownStyles() []api.Style {
	return []api.Style{
		{}, {White: api.WhBreakSpaces, Line: api.LnStrict}, {White: api.WhPre, Line: api.LnLoose, Word: api.WoBreakAll},
		{White: api.WhNowrap, Word: api.WoKeepAll, Wrap: api.WrAnywhere, Line: api.LnAnywhere},
	}
}

// P10.1: all pairs of Kinds, and of what matters of a text, in all styles of places, and in characters' own styles that differ from these.
func TestAllPairs(t *testing.T) {
	s := append(ownStyles(), allStyles()...)
	own := len(ownStyles())
	for n := range s {
		a, b := n%own, n/own%own
		l := pairsOf(a, b)
		check(t, l, s, slices.Repeat([]int{n}, len(l)))
		l = pairsOf(n, n)
		check(t, l, s, slices.Repeat([]int{n}, len(l)))
		check(t, l, s, slices.Repeat([]int{a}, len(l)))
	}
}

// P10.1: each row is the first that holds somewhere among the pairs, and before each one after it that can hold with it and says otherwise.
func TestAllOrders(t *testing.T) {
	rows, s := conditions(), append([]api.Style{{White: api.WhBreakSpaces}}, allStyles()...)
	var over [rowCount][rowCount]bool
	for n := range s {
		l := pairsOf(0, n)
		rules := slices.Repeat([]int{n}, len(l))
		got, e := chance.Chances(l, s, rules)
		if e != api.OK {
			t.Fatal(e)
		}
		for i := range l {
			w := words{l, s, rules, i}
			first := w.first(rows)
			if got[i] != rows[first].is {
				t.Fatalf("%v after %v in %v: %d, want %d", l[i], l[:i][max(0, i-1):], s[n], got[i], rows[first].is)
			}
			for x := max(first, rowForced); i > 0 && x < rowCount; x++ {
				if !over[first][x] && rows[x].holds(w) {
					over[first][x] = true
				}
			}
		}
	}
	for x := rowForced; x < rowCount; x++ {
		if !over[x][x] || !over[x][rowLast] {
			t.Errorf("the row %d is never the first one", x)
		}
	}
	for _, x := range [][2]int{
		{rowForced, rowOwn}, {rowForced, rowAnywhere}, {rowForced, rowWrap},
		{rowWhole, rowOwn}, {rowWhole, rowAnywhere}, {rowWhole, rowPairs}, {rowWhole, rowWrap},
		{rowOwn, rowSpace}, {rowOwn, rowMark}, {rowOwn, rowWrap},
		{rowSpace, rowAnywhere}, {rowSpace, rowPairs}, {rowSpace, rowWrap},
		{rowMark, rowAnywhere}, {rowMark, rowPairs}, {rowAnywhere, rowWrap}, {rowPairs, rowWrap},
	} {
		if !over[x[0]][x[1]] {
			t.Errorf("the row %d is never tried before the row %d", x[0], x[1])
		}
	}
}

// P10.1: all lists of up to four characters of a few, in which what is farther away matters too.
func TestAllLists(t *testing.T) {
	few := append(list("a漢ぁ\u0301("), api.Char{R: ' ', Kind: api.ChSpace}, api.Char{R: ' ', Kind: api.ChKeep}, api.Char{Kind: api.ChForced})
	s := []api.Style{{}, {Word: api.WoKeepAll, Wrap: api.WrAnywhere}, {White: api.WhBreakSpaces, Line: api.LnStrict}, {Line: api.LnAnywhere}}
	var grow func(l []api.Char, node int)
	grow = func(l []api.Char, node int) {
		for n := range s {
			check(t, l, s, slices.Repeat([]int{n}, len(l)))
		}
		if len(l) == 4 {
			return
		}
		for _, c := range few {
			c.Node = node
			grow(append(l, c), node)
		}
	}
	for node := range s {
		grow(make([]api.Char, 0, 4), node)
	}
}

// source draws the same numbers in each run.
func source() *rand.Rand { return rand.New(rand.NewPCG(10, 100)) }

// drawnStyles are some styles, alike or not.
func drawnStyles(r *rand.Rand) []api.Style {
	all := allStyles()
	l := make([]api.Style, 1+r.IntN(6))
	for n := range l {
		l[n] = all[r.IntN(len(all))]
		if r.IntN(2) == 0 { // most of all styles keep lines whole, or are none
			l[n] = api.Style{White: uint8(r.IntN(6)), Wrap: uint8(r.IntN(2))}
		}
		l[n].Tab, l[n].Size, l[n].Font = r.IntN(9), r.Int64N(2048), r.IntN(3)-1
	}
	return l
}

// drawnList is of few symbols or of many, in short runs of a node or in long ones.
func drawnList(r *rand.Rand, n, nodes int) []api.Char {
	all := symbols()
	few := make([]api.Char, 1+r.IntN(12))
	for i := range few {
		few[i] = all[r.IntN(len(all))]
	}
	if r.IntN(4) == 0 {
		few = append(few, api.Char{R: math.MaxInt32}, api.Char{R: math.MinInt32}, api.Char{R: -1}, api.Char{R: 0xd800})
	}
	var l []api.Char
	node, rest := r.IntN(nodes), 1+r.IntN(8)
	for len(l) < n {
		if r.IntN(rest) == 0 {
			node = r.IntN(nodes)
		}
		c := few[r.IntN(len(few))]
		c.Node, c.At, c.Len = node, len(l), r.IntN(5)-1
		l = append(l, c)
	}
	return l
}

// drawnRules are nodes in short runs or in long ones, but for the first place, which has any number.
func drawnRules(r *rand.Rand, n, nodes int) []int {
	l := make([]int, n)
	node, rest := r.IntN(nodes), 1+r.IntN(8)
	for i := range l {
		if r.IntN(rest) == 0 {
			node = r.IntN(nodes)
		}
		l[i] = node
	}
	if n > 0 {
		l[0] = r.IntN(9) - 4
	}
	return l
}

// P10.1: longer lists, of several nodes.
func TestDrawnLists(t *testing.T) {
	r := source()
	for range 30000 {
		s := drawnStyles(r)
		n := r.IntN(30)
		check(t, drawnList(r, n, len(s)), s, drawnRules(r, n, len(s)))
	}
	for range 30 {
		s := drawnStyles(r)
		n := 300 + r.IntN(300)
		check(t, drawnList(r, n, len(s)), s, drawnRules(r, n, len(s)))
	}
}

// P10.3: where each style keeps lines whole, no line is broken, whatever else they are and the list is.
func TestDrawnWhole(t *testing.T) {
	r := source()
	for range 20000 {
		s := drawnStyles(r)
		for n := range s {
			s[n].White = []uint8{api.WhNowrap, api.WhPre}[r.IntN(2)]
		}
		n := r.IntN(30)
		l, rules := drawnList(r, n, len(s)), drawnRules(r, n, len(s))
		if got, e := chance.Chances(l, s, rules); e != api.OK || !slices.Equal(got, make([]uint8, n)) {
			t.Fatalf("%v, %v, %v: %v, %d", l, s, rules, got, e)
		}
	}
}

// P10.3: WrAnywhere in all styles adds only BrEmerg, and only where there was nothing; and it adds some.
func TestDrawnWraps(t *testing.T) {
	r := source()
	added := 0
	for range 20000 {
		s := drawnStyles(r)
		n := r.IntN(30)
		l, rules := drawnList(r, n, len(s)), drawnRules(r, n, len(s))
		wrapped := slices.Clone(s)
		for i := range s {
			s[i].Wrap, wrapped[i].Wrap = []uint8{api.WrNormal, 2, 255}[r.IntN(3)], api.WrAnywhere
		}
		was, e := chance.Chances(l, s, rules)
		got, f := chance.Chances(l, wrapped, rules)
		if e != api.OK || f != api.OK || len(was) != n || len(got) != n {
			t.Fatalf("%v, %v, %v: %v, %d and %v, %d", l, s, rules, was, e, got, f)
		}
		for i := range l {
			grows := was[i] == api.BrNone && got[i] == api.BrEmerg
			if was[i] != got[i] && !grows || was[i] == api.BrEmerg {
				t.Fatalf("%v, %v, %v: %v becomes %v", l, s, rules, was, got)
			}
			if grows {
				added++
			}
		}
	}
	if added == 0 {
		t.Error("nothing is added")
	}
}

// P10.4: after each ChForced of a list all is as it is in the rest of the list alone, and before it as in what is before it alone.
func TestDrawnParts(t *testing.T) {
	r := source()
	for range 20000 {
		s := drawnStyles(r)
		n := r.IntN(30)
		l, rules := drawnList(r, n, len(s)), drawnRules(r, n, len(s))
		for i := range l {
			if r.IntN(6) == 0 {
				l[i].Kind = api.ChForced
			}
		}
		whole, e := chance.Chances(l, s, rules)
		if e != api.OK {
			t.Fatal(e)
		}
		for i, c := range l {
			if c.Kind != api.ChForced {
				continue
			}
			after, e := chance.Chances(l[i+1:], s, rules[i+1:])
			before, f := chance.Chances(l[:i:i], s, rules[:i:i])
			if e != api.OK || f != api.OK || !slices.Equal(whole, slices.Concat(before, []uint8{api.BrNone}, after)) {
				t.Fatalf("%v, %v, %v: %v, want %v, then %v after %d", l, s, rules, whole, before, after, i)
			}
		}
	}
}

// P10.2: numbers at random, of all Kinds, in all styles.
func TestDrawnClasses(t *testing.T) {
	r, s := source(), allStyles()
	for range 100000 {
		c := api.Char{R: r.Int32N(0x3100), Kind: uint8(r.IntN(10)), Node: r.IntN(9) - 4, At: r.IntN(9), Len: r.IntN(9)}
		if r.IntN(10) == 0 {
			c.R = int32(r.Uint32())
		}
		own := s[r.IntN(len(s))]
		if got, want := chance.Class(c, own), classByWords(c, own); got != want {
			t.Fatalf("%v in %v: %s, want %s", c, own, class.Name(got), class.Name(want))
		}
		if got, want := chance.Letter(c), (words{l: []api.Char{c}}).letter(0); got != want {
			t.Fatalf("%v: %v", c, got)
		}
	}
}
