package white_test

import (
	"math"
	"math/rand/v2"
	"slices"
	"testing"

	"stickful/api"
	"stickful/class"
	"stickful/utf"
	"stickful/white"
)

// words collapses a list by the chapter's words, one after the other; it looks anew for all that it asks.
type words struct {
	l []api.Char
	s []api.Style
}

func (w words) at(i int, numbers ...int32) bool {
	return i >= 0 && i < len(w.l) && w.l[i].Kind == api.ChText && slices.Contains(numbers, w.l[i].R)
}

func (w words) of(i int, whites ...uint8) bool {
	return slices.Contains(whites, w.s[w.l[i].Node].White)
}

func (w words) end(i int) bool  { return w.at(i, 0x0a, 0x0d) }
func (w words) soft(i int) bool { return w.end(i) && w.of(i, softs...) }
func (w words) hard(i int) bool { return w.end(i) && w.of(i, hards...) }
func (w words) yielding(i int) bool {
	return w.at(i, 0x20, 0x09) && w.of(i, collapsing...)
}

func (w words) wide(i int) bool {
	return i >= 0 && i < len(w.l) && w.l[i].Kind == api.ChText && class.Wide(w.l[i].R)
}

// besideEnd goes over white that collapses, in both directions.
func (w words) besideEnd(i int) bool {
	before, after := i-1, i+1
	for w.yielding(before) {
		before--
	}
	for w.yielding(after) {
		after++
	}
	return w.end(before) || w.end(after)
}

// only is w with what is in keep alone.
func (w words) only(keep func(i int) bool) words {
	left := words{s: w.s}
	for i, c := range w.l {
		if keep(i) {
			left.l = append(left.l, c)
		}
	}
	return left
}

// oneSoft leaves of each run of soft line ends its first one, or nothing if a hard one is beside the run.
func (w words) oneSoft() words {
	keep := make([]bool, len(w.l))
	for i := range w.l {
		keep[i] = !w.soft(i)
		if !w.soft(i) || w.soft(i-1) {
			continue
		}
		last := i
		for w.soft(last + 1) {
			last++
		}
		keep[i] = !w.hard(i-1) && !w.hard(last+1)
	}
	return w.only(func(i int) bool { return keep[i] })
}

// kindOf is the last step.
func (w words) kindOf(i int) uint8 {
	switch {
	case w.at(i, 0x09):
		return api.ChTab
	case !w.at(i, 0x20):
		return w.l[i].Kind
	case w.of(i, collapsing...):
		return api.ChSpace
	case w.of(i, wrap):
		return api.ChHang
	}
	return api.ChKeep
}

// byWords are the seven steps.
func byWords(l []api.Char, s []api.Style) []api.Char {
	w := words{slices.Clone(l), s}
	w = w.only(func(i int) bool { return !w.at(i, 0x0d) || !w.at(i+1, 0x0a) })
	w = w.only(func(i int) bool { return !w.yielding(i) || !w.besideEnd(i) })
	w = w.oneSoft()
	w = w.only(func(i int) bool {
		return !w.soft(i) || !(w.at(i-1, 0x200b) || w.at(i+1, 0x200b) || w.wide(i-1) && w.wide(i+1))
	})
	for i := range w.l {
		switch {
		case w.soft(i):
			w.l[i].R = 0x20
		case w.hard(i):
			w.l[i].R, w.l[i].Kind = 0x0a, api.ChForced
		case w.at(i, 0x09) && w.yielding(i):
			w.l[i].R = 0x20
		}
	}
	w = w.only(func(i int) bool { return !w.yielding(i) || i == 0 || !w.yielding(i-1) })
	kinds := make([]uint8, len(w.l))
	for i := range w.l {
		kinds[i] = w.kindOf(i)
	}
	for i, kind := range kinds {
		w.l[i].Kind = kind
	}
	return w.l
}

// check holds what becomes of l, whose Ats are its indices, against the chapter's words, and against all that follows from them.
func check(t *testing.T, l []api.Char, s []api.Style) {
	t.Helper()
	got, e := white.Collapse(l, s)
	if want := byWords(l, s); e != api.OK || !slices.Equal(got, want) {
		t.Fatalf("%v, %v: %v, %d, want %v", l, s, got, e, want)
	}
	if !keepsOrder(l, got) {
		t.Fatalf("%v, %v: %v is not of it, in order, or misses something", l, s, got)
	}
	if !keepsApart(l, got, s) {
		t.Fatalf("%v, %v: %v: ChSpace beside ChSpace, or beside a line end", l, s, got)
	}
	if again, e := white.Collapse(asText(l, got), s); e != api.OK || !slices.Equal(again, got) {
		t.Fatalf("%v, %v: %v becomes %v, %d", l, s, got, again, e)
	}
}

// keepsOrder is P8.3, and that what is no white and no line end is as it was.
func keepsOrder(l, got []api.Char) bool {
	for i, c := range l {
		changes := c.Kind == api.ChText && slices.Contains(processed, c.R)
		if len(got) > 0 && got[0].At == i {
			if got[0].Node != c.Node || got[0].Len != c.Len || !changes && got[0] != c {
				return false
			}
			got = got[1:]
		} else if !changes {
			return false
		}
	}
	return len(got) == 0
}

// keepsApart is P8.4.
func keepsApart(l, got []api.Char, s []api.Style) bool {
	wasEnd := func(c api.Char) bool { return c.Kind == api.ChForced && l[c.At].Kind == api.ChText }
	for i, c := range got[min(1, len(got)):] {
		before := got[i]
		if c.Kind == api.ChSpace && (before.Kind == api.ChSpace || wasEnd(before)) || wasEnd(c) && before.Kind == api.ChSpace {
			return false
		}
	}
	if slices.ContainsFunc(l, func(c api.Char) bool { return white.Collapses(s[c.Node]) }) {
		return true
	}
	left := 0
	for i, c := range l { // where everything is kept
		if i+1 == len(l) || c.R != 0x0d || l[i+1].R != 0x0a || c.Kind != api.ChText || l[i+1].Kind != api.ChText {
			left++
		}
	}
	return left == len(got)
}

// asText is got taken as text again: what was text in l is text.
func asText(l, got []api.Char) []api.Char {
	text := slices.Clone(got)
	for i, c := range text {
		text[i].Kind = l[c.At].Kind
	}
	return text
}

// symbol is a character of a node of this White.
type symbol struct {
	r     int32
	kind  uint8
	white uint8
}

// symbols are all texts' characters of the numbers in all of the Whites.
func symbols(numbers []int32, whites ...uint8) []symbol {
	var l []symbol
	for _, r := range numbers {
		for _, w := range whites {
			l = append(l, symbol{r, api.ChText, w})
		}
	}
	return l
}

// checkAll checks all lists of up to n of the symbols.
func checkAll(t *testing.T, n int, of []symbol) {
	t.Helper()
	var grow func(l []api.Char)
	grow = func(l []api.Char) {
		check(t, l, whites())
		if len(l) == n {
			return
		}
		for _, x := range of {
			grow(append(l, api.Char{R: x.r, Node: int(x.white), At: len(l), Len: 9 - len(l), Kind: x.kind}))
		}
	}
	grow(make([]api.Char, 0, n))
}

// processed are the numbers of white, and of line ends.
var processed = []int32{0x20, 0x09, 0x0d, 0x0a}

// others are what is beside them.
func others() []symbol {
	return []symbol{{'a', api.ChText, normal}, {0x5b57, api.ChText, pre}, {0x200b, api.ChText, lines}, {0xfffc, api.ChAtom, nowrap}, {0, api.ChForced, normal}}
}

// P8.1, P8.3 to P8.5: all lists of up to three characters, of all Whites.
func TestAllLists(t *testing.T) {
	checkAll(t, 3, append(symbols(processed, all...), others()...))
}

// P8.1, P8.3 to P8.5: all lists of up to four characters, of the Whites that differ most.
func TestAllListsOfFour(t *testing.T) {
	checkAll(t, 4, append(symbols(processed, normal, pre, lines), others()...))
}

// P8.1, P8.3 to P8.5: all lists of up to five, and six, characters of a few.
func TestAllListsOfMore(t *testing.T) {
	checkAll(t, 5, append(others()[:3], append(symbols(processed, normal), symbol{0x0a, api.ChText, lines}, symbol{0x0a, api.ChText, pre}, symbol{0x20, api.ChText, wrap})...))
	checkAll(t, 6, append(symbols([]int32{0x20, 0x0a}, normal, lines), symbol{0x5b57, api.ChText, normal}, symbol{0x0d, api.ChText, pre}))
}

// P8.1, P8.4: all lists where everything is kept.
func TestAllListsThatAreKept(t *testing.T) {
	checkAll(t, 4, append(symbols(processed, kept...), symbol{'a', api.ChText, pre}, symbol{0x0a, api.ChForced, pre}, symbol{0x0d, api.ChAtom, spaces}))
}

// source draws the same numbers in each run.
func source() *rand.Rand { return rand.New(rand.NewPCG(8, 80)) }

// drawnStyles are some styles, of few Whites or of many.
func drawnStyles(r *rand.Rand) []api.Style {
	l := make([]api.Style, 1+r.IntN(9))
	few := 1 + r.IntN(6)
	for n := range l {
		l[n] = api.Style{White: uint8((few*7 + r.IntN(few)) % 6), Tab: r.IntN(9), Size: r.Int64N(2048)}
	}
	return l
}

// drawnList is of all Kinds, of few numbers or of many, in short runs of a node or in long ones.
func drawnList(r *rand.Rand, n, nodes int) []api.Char {
	numbers := []int32{0x20, 0x20, 0x20, 0x09, 0x09, 0x0a, 0x0a, 0x0a, 0x0d, 0x0d, 'a', 0x5b57, 0x3042, 0x200b, 0xa0, 0x3000, -1, math.MaxInt32, math.MinInt32, 0xd800}
	numbers = numbers[:4+r.IntN(len(numbers)-3)]
	var l []api.Char
	node, rest := r.IntN(nodes), 1+r.IntN(8)
	for len(l) < n {
		if r.IntN(rest) == 0 {
			node = r.IntN(nodes)
		}
		c := api.Char{R: numbers[r.IntN(len(numbers))], Node: node, At: len(l), Len: r.IntN(5) - 1}
		switch r.IntN(20) {
		case 0:
			c.Kind = api.ChAtom
		case 1:
			c.Kind = api.ChForced
		}
		l = append(l, c)
	}
	return l
}

// P8.1, P8.3 to P8.5: longer lists, of several nodes.
func TestDrawnLists(t *testing.T) {
	r := source()
	for range 30000 {
		s := drawnStyles(r)
		check(t, drawnList(r, r.IntN(40), len(s)), s)
	}
	for range 30 {
		s := drawnStyles(r)
		check(t, drawnList(r, 5000, len(s)), s)
	}
}

// P8.3: At and Len are any numbers; they are taken over as they are.
func TestAnyAtAndLen(t *testing.T) {
	r := source()
	places := []int{0, -1, 1, math.MaxInt, math.MinInt, 1 << 32, -1 << 32, 7}
	for range 2000 {
		s := drawnStyles(r)
		l := drawnList(r, r.IntN(20), len(s))
		for i := range l {
			l[i].At, l[i].Len = places[r.IntN(8)], places[r.IntN(8)]
		}
		got, e := white.Collapse(l, s)
		if want := byWords(l, s); e != api.OK || !slices.Equal(got, want) {
			t.Fatalf("%v, %v: %v, %d, want %v", l, s, got, e, want)
		}
	}
}

// P8.2, P8.5: the bytes of a collapsed text of one node are a text that collapses to itself.
func TestBytesCollapseToThemselves(t *testing.T) {
	r := source()
	for range 20000 {
		s := []api.Style{{White: uint8(r.IntN(6))}}
		var numbers []int32
		for _, c := range drawnList(r, r.IntN(30), 1) {
			numbers = append(numbers, c.R)
		}
		text := utf.Encode(numbers)
		one, e := white.Collapse(utf.Decode(text), s)
		kept := white.Kept(one)
		two, f := white.Collapse(utf.Decode(kept), s)
		if e != api.OK || f != api.OK || white.Kept(two) != kept || len(one) != len(two) {
			t.Fatalf("%q of White %d becomes %q, then %q", text, s[0].White, kept, white.Kept(two))
		}
		for i := range one {
			if one[i].R != two[i].R || one[i].Kind != two[i].Kind {
				t.Fatalf("%q of White %d: %v becomes %v", text, s[0].White, one[i], two[i])
			}
		}
	}
}

// P8.1, R1: long lists, whatever is in them many times, do not take long.
func TestLongLists(t *testing.T) {
	const most = 1 << 18
	for _, p := range []struct {
		white uint8
		text  string
		left  int
	}{
		{normal, "\t", 1}, {normal, "\r\n", 1}, {normal, " \n", 1}, {normal, "字\n", most/2 + 1}, {normal, "a ", most},
		{lines, "\n", most}, {lines, " \n", most / 2}, {lines, "\r", most}, {pre, "\r\n", most / 2}, {wrap, " \t", most}, {spaces, "\r ", most},
	} {
		piece := list(piece{p.white, p.text})
		got, e := white.Collapse(slices.Repeat(piece, most/len(piece)), whites())
		if e != api.OK || len(got) != p.left {
			t.Errorf("%q of White %d, many times: %d are left, %d", p.text, p.white, len(got), e)
		}
	}
}

// P8.1, R1: a run of white, or of soft line ends, as long as texts may be, with a hard line end before it, or behind it, or with none.
func TestLongRuns(t *testing.T) {
	end, other := list(piece{pre, "\n"}), list(piece{normal, "a"})
	for _, text := range []string{" ", "\n"} {
		run := slices.Repeat(list(piece{normal, text}), 1<<20)
		for _, x := range []struct {
			l    []api.Char
			want string
		}{
			{slices.Concat(end, run, other), "$a"}, {slices.Concat(other, run, end), "a$"}, {slices.Concat(other, run, other), "a_a"},
		} {
			if got, e := white.Collapse(x.l, whites()); e != api.OK || show(got) != x.want {
				t.Errorf("%q many times: %d are left, %d, want %q", text, len(got), e, x.want)
			}
		}
	}
}
