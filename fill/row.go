package fill

import (
	"iter"
	"slices"

	"stickful/api"
	"stickful/trim"
)

// far is half of 2^62: where cells go no further than that in all, a pen that begins within it stays within 2^62.
const far = int64(1) << 61

// A row is cells, and what is found in them once for all of their lines.
type row struct {
	l             []api.Cell
	soft, emerg   []int   // the places whose cell is Soft, or Emerg
	forced, lasts []int   // the places of the CeForced, and for each one the end that it forces
	least         []int64 // for each place how far the cells before it go at least; nil if the row goes further than far, to and fro in all
}

// newRow returns the row of the cells l.
func newRow(l []api.Cell) *row {
	r := &row{l: l, least: leasts(l)}
	for i, c := range l {
		if c.Soft {
			r.soft = append(r.soft, i)
		}
		if c.Emerg {
			r.emerg = append(r.emerg, i)
		}
		if c.Kind == api.CeForced {
			r.forced = append(r.forced, i)
			r.lasts = append(r.lasts, closed(l, i+1))
		}
	}
	return r
}

// closed returns the place after all CeClose that directly follow the place at.
func closed(l []api.Cell, at int) int {
	for at < len(l) && l[at].Kind == api.CeClose {
		at++
	}
	return at
}

// last returns the last end from the place from on, and whether it is forced.
func (r *row) last(from int) (int, bool) {
	i, _ := slices.BinarySearch(r.forced, from)
	if i == len(r.forced) {
		return len(r.l), false
	}
	return r.lasts[i], true
}

// softEnds returns what produces the soft ends from the place from on.
func (r *row) softEnds(from int) iter.Seq[int] {
	return func(yield func(int) bool) {
		last, _ := r.last(from)
		for end := range r.between(r.soft, from, last) {
			if !yield(end) {
				return
			}
		}
		yield(last)
	}
}

// between returns what produces those of the places that are between from and to, and up to which the cells are not blank.
func (r *row) between(places []int, from, to int) iter.Seq[int] {
	return func(yield func(int) bool) {
		blank := from // the cells from there on are blank as long as each one alone is
		for blank < to && trim.Blank(r.l[blank:blank+1]) {
			blank++
		}
		next, _ := slices.BinarySearch(places, blank+1)
		for _, place := range places[next:] {
			if place >= to || !yield(place) {
				return
			}
		}
	}
}

// leasts returns for each place of l how far the cells before it go at least, or nil if l goes further than far, to and fro in all.
func leasts(l []api.Cell) []int64 {
	least := make([]int64, 1, len(l)+1)
	var all, sum int64
	for _, c := range l {
		if c.Adv < -far || c.Adv > far {
			return nil
		}
		all += max(c.Adv, -c.Adv)
		if all > far {
			return nil
		}
		sum += atLeast(c)
		least = append(least, sum)
	}
	return least
}

// atLeast returns how far c goes at least, whatever is before it and after it in a line.
func atLeast(c api.Cell) int64 {
	switch c.Kind {
	case api.CeTab:
		return 0
	case api.CeSpace, api.CeHang: // they may be skipped
		return min(0, c.Adv)
	}
	return c.Adv
}
