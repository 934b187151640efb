package cells

import (
	"stickful/api"
	"stickful/font"
)

// space is the code point that tab stops are measured by.
const space = 0x20

// measures is what the advances of cells are computed from.
type measures struct {
	styles []api.Style
	fonts  []api.Font
	atoms  []int64
}

// valid reports whether each of so many nodes has a style that is valid here, and a number in case it is an atom.
func (m measures) valid(nodes int) bool {
	if len(m.styles) != nodes || len(m.atoms) != nodes {
		return false
	}
	for _, s := range m.styles {
		if s.White > api.WhBreakSpaces || s.Font < 0 || s.Font >= len(m.fonts) || s.Tab < 0 || s.Tab > api.MaxTab {
			return false
		}
	}
	return true
}

// becoming is what a line character becomes: a cell of this kind, that goes so far.
type becoming struct {
	kind uint8
	goes func(c api.Char) int64
}

// becomings has one for each Kind of line characters.
type becomings [api.ChAtom + 1]becoming

// becomings makes them.
func (m measures) becomings() becomings {
	return becomings{
		api.ChText:   {api.CeChar, m.own},
		api.ChSpace:  {api.CeSpace, m.own},
		api.ChHang:   {api.CeHang, m.own},
		api.ChKeep:   {api.CeKeep, m.own},
		api.ChTab:    {api.CeTab, m.tab},
		api.ChForced: {api.CeForced, func(api.Char) int64 { return 0 }},
		api.ChAtom:   {api.CeAtom, func(c api.Char) int64 { return m.atoms[c.Node] }},
	}
}

// own returns how far c goes as the character that it is.
func (m measures) own(c api.Char) int64 { return m.advance(c.Node, c.R) }

// tab returns the distance of the tab stops for c: where the next one is depends on the line, and is found in a layer above.
func (m measures) tab(c api.Char) int64 {
	return m.advance(c.Node, space) * int64(m.styles[c.Node].Tab)
}

// advance returns how far r goes in the style of the node n.
func (m measures) advance(n int, r int32) int64 {
	s := m.styles[n]
	return font.Advance(m.fonts[s.Font], s.Size, r)
}

// row is cells that are put after each other, and what they are made of.
type row struct {
	chars   []api.Char
	chances []uint8 // what is at the place of each of chars
	becomes becomings
	next    int   // the first of chars that has no cell yet
	waits   uint8 // what is at the place of next, till a cell has it
	cells   []api.Cell
}

// stop puts the cells of where the node x is entered, or left.
func (r *row) stop(at api.Stop, x api.Node) {
	switch {
	case x.Kind == api.NkBox && at.In:
		r.put(api.Cell{Kind: api.CeOpen, Node: at.Node, Char: -1, Adv: x.Start})
	case x.Kind == api.NkBox:
		r.put(api.Cell{Kind: api.CeClose, Node: at.Node, Char: -1, Adv: x.End})
	case at.In:
		r.putChars(at.Node)
	}
}

// putChars puts the cells of the line characters of the node n, which come next if there are any, as nodes come in the order of their characters.
func (r *row) putChars(n int) {
	for r.next < len(r.chars) && r.chars[r.next].Node == n {
		c := r.chars[r.next]
		is := r.becomes[c.Kind]
		r.put(api.Cell{Kind: is.kind, Node: n, Char: r.next, Adv: is.goes(c)})
		r.next++
		if r.next < len(r.chars) {
			r.waits = r.chances[r.next]
		}
	}
}

// put appends c. A line does not end between a character and what closes after it: what is at the place waits for another cell.
func (r *row) put(c api.Cell) {
	if c.Kind != api.CeClose {
		c.Soft, c.Emerg = r.waits == api.BrSoft, r.waits == api.BrEmerg
		r.waits = api.BrNone
	}
	r.cells = append(r.cells, c)
}
