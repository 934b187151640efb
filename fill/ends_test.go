package fill

import (
	"iter"
	"math/rand/v2"
	"slices"
	"testing"

	"stickful/api"
	"stickful/trim"
)

// marked are n characters with both marks.
func marked(n int) []api.Cell {
	return slices.Repeat([]api.Cell{{Adv: 5, Soft: true, Emerg: true}}, n)
}

// P14.1: the ends are produced in order, a second time the same.
func TestProduced(t *testing.T) {
	l := marked(6)
	l[3].Kind = api.CeForced
	r := newRow(l)
	for _, x := range []struct {
		ends iter.Seq[int]
		want []int
	}{
		{r.softEnds(0), []int{1, 2, 3, 4}}, {r.softEnds(3), []int{4}}, {r.softEnds(4), []int{5, 6}}, {r.softEnds(6), []int{6}},
		{r.between(r.emerg, 0, 4), []int{1, 2, 3}}, {r.between(r.emerg, 1, 3), []int{2}}, {r.between(r.emerg, 2, 3), nil}, {r.between(r.emerg, 6, 6), nil}, {r.between(nil, 0, 6), nil},
	} {
		for range 2 {
			if got := slices.Collect(x.ends); !slices.Equal(got, x.want) {
				t.Errorf("%v, want %v", got, x.want)
			}
		}
	}
}

// P14.2: who wants no more ends gets none.
func TestProducedLeft(t *testing.T) {
	r := newRow(marked(9))
	for _, ends := range []iter.Seq[int]{r.softEnds(0), r.between(r.emerg, 0, 9)} {
		for most := 1; most < 8; most++ {
			count := 0
			for end := range ends {
				count++
				if end == most {
					break
				}
			}
			if count != most {
				t.Errorf("%d, want %d", count, most)
			}
		}
	}
}

// P14.2: which ends are asked for, by which ones fit, and what is returned of them.
func TestReach(t *testing.T) {
	for _, x := range []struct {
		ends, fit, asked []int
		to               int
		fits             bool
	}{
		{nil, nil, nil, none, false}, {[]int{3}, []int{3}, []int{3}, 3, true}, {[]int{3}, nil, []int{3}, 3, false},
		{[]int{3, 5, 8}, []int{3, 5, 8}, []int{3, 5, 8}, 8, true}, {[]int{3, 5, 8}, []int{3, 5}, []int{3, 5, 8}, 5, true}, {[]int{3, 5, 8}, []int{3, 8}, []int{3, 5}, 3, true},
		{[]int{3, 5, 8}, []int{5, 8}, []int{3}, 3, false}, {[]int{3, 5, 8}, nil, []int{3}, 3, false},
	} {
		var asked []int
		to, fits := reach(slices.Values(x.ends), func(end int) bool {
			asked = append(asked, end)
			return slices.Contains(x.fit, end)
		})
		if to != x.to || fits != x.fits || !slices.Equal(asked, x.asked) {
			t.Errorf("%v, of which %v fit: %d, %t, asked %v", x.ends, x.fit, to, fits, asked)
		}
	}
}

// drawnCells are up to 12, of all Kinds, and of numbers of either sign; seldom of one that goes very far.
func drawnCells(r *rand.Rand) []api.Cell {
	l := make([]api.Cell, r.IntN(13))
	for i := range l {
		l[i] = api.Cell{Kind: uint8(r.IntN(int(api.CeClose) + 2)), Adv: r.Int64N(20) - 6}
		if r.IntN(12) == 0 {
			l[i].Adv = far*(r.Int64N(5)-2) + r.Int64N(5)
		}
		if l[i].Kind == api.CeTab {
			l[i].Adv = max(l[i].Adv, 0)
		}
	}
	return l
}

// P14.2: the pens after each beginning of a line are where layer 13 has what must fit of it, alone, with something that hangs after it, and with a character.
func TestPens(t *testing.T) {
	source := rand.New(rand.NewPCG(14, 1))
	var errors [api.ErrOver + 1]int
	for range 40000 {
		l := drawnCells(source)
		start := []int64{0, 3, -7, 2 * far, -2 * far, 2*far + 1}[source.IntN(6)]
		p := begin(start)
		for n := range len(l) + 1 {
			for _, x := range []struct {
				pen
				after []api.Cell
			}{{p.end, nil}, {p.hang, []api.Cell{{Kind: api.CeHang}}}, {p.mid, []api.Cell{{}}}} {
				want, e := trim.Fits(slices.Concat(l[:n], x.after), start)
				if x.x != want || x.e != e {
					t.Fatalf("%v, %v after it, from %d: %v, want %d, %d", l[:n], x.after, start, x.pen, want, e)
				}
				errors[e]++
			}
			if p.blank != trim.Blank(l[:n]) {
				t.Fatalf("%v: blank is %t", l[:n], p.blank)
			}
			if n < len(l) {
				p.pass(l[n])
			}
		}
	}
	if errors[api.OK] < 9999 || errors[api.ErrOver] < 9999 {
		t.Errorf("%v", errors)
	}
}

// P14.2: what must fit up to an end is never less than what is certain at a place before it, and no pen there is too far.
func TestLeast(t *testing.T) {
	source := rand.New(rand.NewPCG(14, 2))
	calm := 0
	for range 40000 {
		l := drawnCells(source)
		r := newRow(l)
		if r.least == nil {
			continue
		}
		calm++
		start := []int64{0, 3, -7, far, -far}[source.IntN(5)]
		p := begin(start)
		for at := range l {
			certain := p.least() - r.least[at]
			for end := at; end <= len(l); end++ {
				if need, e := trim.Fits(l[:end], start); e != api.OK || need < certain+r.least[end] {
					t.Fatalf("%v, %d to %d, from %d: %d, %d, certain is %d", l, at, end, start, need, e, certain+r.least[end])
				}
			}
			p.pass(l[at])
		}
	}
	if calm < 9999 {
		t.Errorf("%d", calm)
	}
}

// P14.2: how far all cells may go, to and fro, so that something is certain.
func TestFar(t *testing.T) {
	for _, x := range []struct {
		advs    []int64
		certain bool
	}{
		{nil, true}, {[]int64{far}, true}, {[]int64{-far}, true}, {[]int64{far - 1, 1}, true}, {[]int64{far - 1, -1}, true}, {[]int64{1, -far + 1, 0}, true},
		{[]int64{far + 1}, false}, {[]int64{-far - 1}, false}, {[]int64{far, 1}, false}, {[]int64{far, -1}, false}, {[]int64{-far, -1}, false}, {[]int64{far, far, far, far}, false}, {[]int64{far, 1<<63 - 1}, false}, {[]int64{1<<63 - 1}, false}, {[]int64{-1 << 63}, false},
	} {
		var l []api.Cell
		for _, adv := range x.advs {
			l = append(l, api.Cell{Adv: adv})
		}
		if got := leasts(l); (got != nil) != x.certain || x.certain && len(got) != len(l)+1 {
			t.Errorf("%v: %v", x.advs, got)
		}
	}
}
