package chance

import "stickful/api"

// place is what the table asks about the place before a character.
type place struct {
	first         bool // nothing is before it, and nothing rules it
	before, after char
	style         api.Style // of the node that rules it
	ends          bool      // whether layer 9 lets a line end there
}

// row is one of the chapter's table: what is at a place that it applies to.
type row struct {
	is      uint8
	applies func(p place) bool
}

// table has all rows, in their order.
type table [8]row

// at returns what is at p, by the first row that applies; the last one always does.
func (t *table) at(p place) uint8 {
	for _, r := range t {
		if r.applies(p) {
			return r.is
		}
	}
	return api.BrNone
}

// rows makes the table.
func rows() table {
	return table{
		{api.BrNone, place.isClosed},
		{api.BrSoft, func(p place) bool { return p.before.endsLines() }},
		{api.BrNone, func(p place) bool { return p.after.kind == api.ChSpace || p.after.kind == api.ChHang }},
		{api.BrNone, func(p place) bool { return p.style.Line == api.LnAnywhere && p.after.isMark() }},
		{api.BrSoft, func(p place) bool { return p.style.Line == api.LnAnywhere }},
		{api.BrSoft, func(p place) bool { return p.ends && !p.holdsTogether() }},
		{api.BrEmerg, func(p place) bool { return p.style.Wrap == api.WrAnywhere && !p.after.isMark() }},
		{api.BrNone, func(place) bool { return true }},
	}
}

// isClosed reports whether no line is ever broken at p: what is forced is beside it, or its style keeps lines whole.
func (p place) isClosed() bool {
	return p.first || p.before.kind == api.ChForced || p.after.kind == api.ChForced ||
		p.style.White == api.WhNowrap || p.style.White == api.WhPre
}

// holdsTogether reports whether p is between two letters in a style that does not break words.
func (p place) holdsTogether() bool {
	return p.style.Word == api.WoKeepAll && p.before.isLetter() && p.after.isLetter()
}

// endsLines reports whether a line may end after c by its own style: white that takes its room may be followed by more in the next line.
func (c char) endsLines() bool {
	return (c.kind == api.ChKeep || c.kind == api.ChTab) && c.white == api.WhBreakSpaces
}
