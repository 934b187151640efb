package white

import (
	"iter"
	"slices"

	"stickful/api"
)

// step is one of those that collapse a list. Any of its functions may be nil.
type step struct {
	past func(c char) bool                // what is looked past when a neighbour is looked for
	gone func(before, c, after char) bool // whether c, between these neighbours, is removed
	then func(c *char)                    // what becomes of c if it stays
}

// steps makes the row of all steps, in the chapter's order. Three are its third one: each of these is decided by the list that the one before it leaves.
func steps() [9]step {
	return [...]step{
		{gone: func(_, c, after char) bool { return c.is(carriage) && after.is(newline) }},
		{past: char.collapsesAsWhite, gone: func(before, c, after char) bool {
			return c.collapsesAsWhite() && (before.isLineEnd() || after.isLineEnd())
		}},
		{gone: func(before, c, _ char) bool { return c.isSoft() && before.isSoft() }},
		{gone: func(before, c, after char) bool { return c.isSoft() && (before.isHard() || after.isHard()) }},
		{gone: leavesNothing, then: softBecomesSpace},
		{then: hardBecomesForced},
		{then: tabBecomesSpace},
		{gone: func(before, c, _ char) bool { return c.collapsesAs(space) && before.collapsesAs(space) }},
		{then: whiteGetsKind},
	}
}

// apply returns what the step leaves of l. What is removed is decided by l as it is, whatever else is removed.
func (s step) apply(l []char) []char {
	left := l
	if s.gone != nil {
		before, after := s.neighbours(l)
		left = without(l, func(i int) bool { return s.gone(before(i), l[i], after(i)) })
	}
	if s.then != nil {
		for i := range left {
			s.then(&left[i])
		}
	}
	return left
}

// neighbours makes what finds, by a place in l, the character's neighbours.
func (s step) neighbours(l []char) (before, after func(i int) char) {
	return s.nearest(l, slices.All(l)), s.nearest(l, slices.Backward(l))
}

// nearest makes what finds, by a place in l, the last character that comes before it in the order, of those that are not looked past. All are found at once: looking anew from each place would take too long where many are looked past.
func (s step) nearest(l []char, order iter.Seq2[int, char]) func(i int) char {
	const none = -1
	found, last := make([]int, len(l)), none
	for i, c := range order {
		found[i] = last
		if s.past == nil || !s.past(c) {
			last = i
		}
	}
	return func(i int) char {
		if found[i] == none {
			return char{Char: api.Char{Kind: api.ChAtom}} // where the list ends, all is as beside an atom
		}
		return l[found[i]]
	}
}

// without returns a new list of what is not gone of l, by its place there.
func without[T any](l []T, gone func(i int) bool) []T {
	left := make([]T, 0, len(l))
	for i, x := range l {
		if !gone(i) {
			left = append(left, x)
		}
	}
	return left
}

// leavesNothing reports whether c is a soft line end that does not even become a space.
func leavesNothing(before, c, after char) bool {
	return c.isSoft() && (before.is(zeroSpace) || after.is(zeroSpace) || before.isWide() && after.isWide())
}

func softBecomesSpace(c *char) {
	if c.isSoft() {
		c.R = space
	}
}

func hardBecomesForced(c *char) {
	if c.isHard() {
		c.R, c.Kind = newline, api.ChForced
	}
}

func tabBecomesSpace(c *char) {
	if c.collapsesAs(tab) {
		c.R = space
	}
}

// whiteGetsKind comes last, as what has another Kind than ChText is not white any more.
func whiteGetsKind(c *char) {
	switch {
	case c.is(tab): // a kept one, as the others are spaces by now
		c.Kind = api.ChTab
	case c.collapsesAs(space):
		c.Kind = api.ChSpace
	case c.is(space) && c.white == api.WhPreWrap:
		c.Kind = api.ChHang
	case c.is(space):
		c.Kind = api.ChKeep
	}
}
