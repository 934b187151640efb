package pair_test

import (
	"math/rand/v2"
	"slices"
	"strconv"
	"strings"
	"testing"

	"stickful/api"
	"stickful/pair"
)

// chapterTable has the chapter's rules, one after the other: rule 5 says one thing, then the other.
const chapterTable = `4 ÷ a BK
5 × a CR and b LF
5 ÷ a CR LF NL
6 × b BK CR LF NL
7 × b SP ZW
8 ÷ o ZW
9 × clings
11 × a WJ or b WJ
12 × a GL or b GL and a not SP BA HY
13 × b CL EX IS
14 × o OP
15 × o QU and b OP
16 × o CL and b NS
17 × o B2 and b B2
18 ÷ a SP
19 × a QU or b QU
20 ÷ a CB or b CB
21 × b BA HY NS or a BB
22 × b IN
23 × a AL and b NU or a NU and b AL or a PR and b ID or a ID and b PO
24 × a PR and b AL or a PO and b AL or a AL and b PR or a AL and b PO
25 × a CL and b PO or a CL and b PR or a NU and b PO or a NU and b PR or a PO and b OP or a PO and b NU or a PR and b OP or a PR and b NU or a HY and b NU or a IS and b NU or a NU and b NU
28 × a AL and b AL
29 × a IS and b AL
31 ÷ always`

// words is a place of a row, of which all is found anew by the chapter's words.
type words struct {
	l []uint8
	i int
}

// asks is one of the conditions that the table is made of.
type asks func(w words) bool

type line struct {
	number uint8
	ends   bool
	any    [][]asks // of one of these all hold
}

// chapterLines reads the table.
func chapterLines() []line {
	var all []line
	for _, text := range strings.Split(chapterTable, "\n") {
		parts := strings.SplitN(text, " ", 3)
		number, err := strconv.Atoi(parts[0])
		if err != nil {
			panic(err)
		}
		l := line{number: uint8(number), ends: parts[1] == "÷"}
		for _, some := range strings.Split(parts[2], " or ") {
			var each []asks
			for _, one := range strings.Split(some, " and ") {
				each = append(each, condition(one))
			}
			l.any = append(l.any, each)
		}
		all = append(all, l)
	}
	return all
}

func condition(text string) asks {
	switch text {
	case "always":
		return func(words) bool { return true }
	case "clings":
		return func(w words) bool { return w.clings(w.i) }
	}
	letter, rest, _ := strings.Cut(text, " ")
	rest, not := strings.CutPrefix(rest, "not ")
	l := row(rest)
	return func(w words) bool {
		n, ok := w.what(letter)
		return (ok && slices.Contains(l, n)) != not
	}
}

// what is a, b or o, if there is one.
func (w words) what(letter string) (n uint8, ok bool) {
	at := w.i
	switch letter {
	case "a":
		at--
	case "o":
		for at--; at >= 0 && w.counts(at) == api.ClSP; at-- {
		}
	}
	if at < 0 {
		return 0, false
	}
	return w.counts(at), true
}

func (w words) counts(i int) uint8 {
	switch {
	case w.l[i] > api.ClCB:
		return api.ClAL
	case w.l[i] == api.ClCJ:
		return api.ClNS
	case w.l[i] != api.ClCM:
		return w.l[i]
	case w.clings(i):
		return w.counts(i - 1)
	}
	return api.ClAL
}

func (w words) clings(i int) bool {
	if w.l[i] != api.ClCM || i == 0 {
		return false
	}
	before := w.counts(i - 1)
	return before != api.ClBK && before != api.ClCR && before != api.ClLF && before != api.ClNL && before != api.ClSP && before != api.ClZW
}

func (l line) applies(w words) bool {
	return slices.ContainsFunc(l.any, func(each []asks) bool {
		return !slices.ContainsFunc(each, func(one asks) bool { return !one(w) })
	})
}

// said is what is said of a row.
type said struct {
	breaks []bool
	rules  []uint8
	must   []bool
}

// answers are the program's.
func answers(l []uint8) said { return said{pair.Breaks(l), pair.Rules(l), pair.Must(l)} }

// byWords are the chapter's.
func byWords(table []line, l []uint8) said {
	s := said{make([]bool, len(l)), make([]uint8, len(l)), make([]bool, len(l))}
	for i := 1; i < len(l); i++ {
		first := table[slices.IndexFunc(table, func(x line) bool { return x.applies(words{l, i}) })]
		s.breaks[i], s.rules[i] = first.ends, first.number
		s.must[i] = first.ends && first.number < 6
	}
	return s
}

func (s said) equal(other said) bool {
	return slices.Equal(s.breaks, other.breaks) && slices.Equal(s.rules, other.rules) && slices.Equal(s.must, other.must)
}

// upTo is what is said of the first n characters.
func (s said) upTo(n int) said { return said{s.breaks[:n], s.rules[:n], s.must[:n]} }

// without is what is said of all characters but that at i.
func (s said) without(i int) said {
	return said{skip(s.breaks, i), skip(s.rules, i), skip(s.must, i)}
}

func skip[T any](l []T, i int) []T { return slices.Concat(l[:i], l[i+1:]) }

// check holds what is said of l against the chapter's words.
func check(t *testing.T, table []line, l []uint8) {
	t.Helper()
	if got, want := answers(l), byWords(table, l); !got.equal(want) {
		t.Fatalf("%v: %v, want %v", l, got, want)
	}
}

// numbers are all classes, and some numbers that are none.
func numbers() []uint8 {
	l := []uint8{27, 28, 128, 254, 255}
	for n := range api.ClCB + 1 {
		l = append(l, n)
	}
	return l
}

// P9.1, P9.2: every pair of numbers.
func TestAllPairs(t *testing.T) {
	table := chapterLines()
	for a := range 256 {
		for b := range 256 {
			check(t, table, []uint8{uint8(a), uint8(b)})
		}
	}
}

// P9.1, P9.2: every pair of classes, with up to two spaces between, alone, and behind each third one with up to two spaces between.
func TestAllTriples(t *testing.T) {
	table := chapterLines()
	spaces := []uint8{api.ClSP, api.ClSP}
	for _, a := range numbers() {
		for _, b := range numbers() {
			for n := range 3 {
				check(t, table, slices.Concat([]uint8{a}, spaces[:n], []uint8{b}))
				for _, third := range numbers() {
					for m := range 3 {
						check(t, table, slices.Concat([]uint8{third}, spaces[:m], []uint8{a}, spaces[:n], []uint8{b}))
					}
				}
			}
		}
	}
}

// P9.1: the rows that are tried above have each rule as the first one that applies, also where another one applies too that says otherwise.
func TestAllOrders(t *testing.T) {
	table := chapterLines()
	over := map[uint8]map[uint8]bool{}
	for _, a := range numbers() {
		for _, b := range numbers() {
			for _, l := range [][]uint8{{a, b}, {a, api.ClSP, b}} {
				rules := pair.Rules(l)
				for i := 1; i < len(l); i++ {
					var all []line
					for _, x := range table {
						if x.applies(words{l, i}) {
							all = append(all, x)
						}
					}
					first := all[0]
					if rules[i] != first.number {
						t.Fatalf("%v: %v, want %d at %d", l, rules, first.number, i)
					}
					for _, x := range all {
						if over[first.number] == nil {
							over[first.number] = map[uint8]bool{}
						}
						over[first.number][x.number] = true
					}
				}
			}
		}
	}
	for _, x := range table {
		if !over[x.number][x.number] || !over[x.number][31] {
			t.Errorf("rule %d is never the first one", x.number)
		}
	}
	for _, x := range [][2]uint8{{4, 6}, {5, 7}, {6, 8}, {7, 8}, {7, 18}, {7, 20}, {8, 11}, {8, 18}, {9, 20}, {11, 18}, {12, 20}, {13, 18}, {14, 18}, {15, 18}, {15, 19}, {16, 18}, {17, 18}, {18, 19}, {18, 20}, {19, 20}, {20, 21}, {20, 22}, {21, 22}} {
		if !over[x[0]][x[1]] {
			t.Errorf("rule %d is never tried before rule %d", x[0], x[1])
		}
	}
}

// source draws the same numbers in each run.
func source() *rand.Rand { return rand.New(rand.NewPCG(9, 90)) }

// drawnRow is of few numbers or of many, with many marks and spaces.
func drawnRow(r *rand.Rand, most int) []uint8 {
	few := make([]uint8, 1+r.IntN(12))
	for i := range few {
		few[i] = uint8(r.IntN(int(api.ClCB) + 1))
		if r.IntN(12) == 0 {
			few[i] = uint8(r.IntN(256))
		}
	}
	few = append(few, []uint8{api.ClCM, api.ClSP, api.ClAL}[:r.IntN(4)]...)
	l := make([]uint8, r.IntN(most+1))
	for i := range l {
		l[i] = few[r.IntN(len(few))]
	}
	return l
}

// P9.1, P9.2: longer rows.
func TestDrawnRows(t *testing.T) {
	r, table := source(), chapterLines()
	for range 20000 {
		check(t, table, drawnRow(r, 20))
	}
	for range 50 {
		check(t, table, drawnRow(r, 400))
	}
}

// P9.3: of a row's beginning, up to each place, the same is said whatever comes after it.
func TestWhatComesAfter(t *testing.T) {
	r := source()
	for range 4000 {
		l, other := drawnRow(r, 16), drawnRow(r, 6)
		whole := answers(l)
		for n := range len(l) + 1 {
			if got := answers(l[:n:n]); !got.equal(whole.upTo(n)) {
				t.Fatalf("%v, of which the first %d: %v, want %v", l, n, got, whole.upTo(n))
			}
			if got := answers(slices.Concat(l[:n], other)).upTo(n); !got.equal(whole.upTo(n)) {
				t.Fatalf("%v, with %v after the first %d: %v, want %v", l, other, n, got, whole.upTo(n))
			}
		}
	}
}

// P9.4: a mark that is put in after any character that it clings to changes nothing else, and no line may end before it.
func TestMarksPutIn(t *testing.T) {
	r := source()
	for range 8000 {
		l := drawnRow(r, 16)
		was := answers(l)
		for n := 1; n <= len(l); n++ {
			marked := slices.Insert(slices.Clone(l), n, api.ClCM)
			if !(words{marked, n}).clings(n) {
				continue
			}
			got := answers(marked)
			if got.breaks[n] || got.must[n] || got.rules[n] != 9 {
				t.Fatalf("%v: %v of the mark at %d", marked, got, n)
			}
			if !got.without(n).equal(was) {
				t.Fatalf("%v: %v, with a mark at %d %v", l, was, n, got)
			}
		}
	}
}

// P9.4: several marks are as one.
func TestManyMarksPutIn(t *testing.T) {
	r := source()
	for range 4000 {
		l := drawnRow(r, 16)
		var marked []uint8
		var at []int
		for i, n := range l {
			at = append(at, len(marked))
			marked = append(marked, n)
			if (words{append(slices.Clone(l[:i+1]), api.ClCM), 0}).clings(i + 1) {
				marked = append(marked, slices.Repeat([]uint8{api.ClCM}, r.IntN(4))...)
			}
		}
		was, got := answers(l), answers(marked)
		for i, n := range at {
			if got.breaks[n] != was.breaks[i] || got.rules[n] != was.rules[i] || got.must[n] != was.must[i] {
				t.Fatalf("%v: %v, and with marks %v: %v", l, was, marked, got)
			}
		}
		for n := range marked {
			if !slices.Contains(at, n) && (got.breaks[n] || got.must[n] || got.rules[n] != 9) {
				t.Fatalf("%v: %v of the mark at %d", marked, got, n)
			}
		}
	}
}
