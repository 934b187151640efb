package fill

import (
	"stickful/api"
	"stickful/trim"
)

// A pen is a position in a line, or the error that is there instead.
type pen struct {
	x int64
	e api.Errno
}

// after returns the pen after c, if c stays in its line.
func (p pen) after(c api.Cell) pen {
	if p.e != api.OK {
		return p
	}
	x, e := trim.Fits([]api.Cell{{}, c, {}}, p.x) // between two characters each cell stays
	return pen{x, e}
}

// The pens are where a line that has passed some cells is, as it depends on what comes next, besides edges: a character (mid), something that hangs (hang), or nothing at all (end). With them each cell is passed once for all ends of a line.
type pens struct {
	blank          bool
	mid, hang, end pen
}

// begin returns the pens of a line that begins at x.
func begin(x int64) pens {
	x, e := trim.Fits(nil, x)
	p := pen{x, e}
	return pens{true, p, p, p}
}

// pass goes on to the place after c.
func (p *pens) pass(c api.Cell) {
	switch c.Kind {
	case api.CeOpen, api.CeClose, api.CeForced:
		p.mid, p.hang, p.end = p.mid.after(c), p.hang.after(c), p.end.after(c)
	case api.CeSpace:
		if !p.blank {
			p.mid, p.hang = p.mid.after(c), p.hang.after(c)
		}
	case api.CeHang:
		p.mid, p.end, p.blank = p.mid.after(c), p.hang, false
	default:
		p.mid, p.blank = p.mid.after(c), false
		p.hang, p.end = p.mid, p.mid
	}
}

// least returns the least of the pens, of which none is too far.
func (p *pens) least() int64 { return min(p.mid.x, p.hang.x, p.end.x) }
