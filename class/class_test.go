package class_test

import (
	"math"
	"slices"
	"strconv"
	"strings"
	"testing"

	"stickful/api"
	"stickful/class"
)

// classRanges is the chapter's table, word by word.
const classRanges = `BK: b to c, 2028 to 2029
CR: d
LF: a
NL: 85
SP: 20
ZW: 200b
WJ: 2060, feff
GL: a0, 2007, 2011, 202f
CM: 0 to 8, e to 1f, 7f to 84, 86 to 9f, 300 to 36f, 483 to 489, 591 to 5bd, 610 to 61a, 64b to 65f, 1ab0 to 1aff, 1dc0 to 1dff, 200c to 200f, 202a to 202e, 20d0 to 20ff, 302a to 302f, 3099 to 309a, fe00 to fe0f, fe20 to fe2f, e0001 to e01ef
BA: 9, 7c, ad, 2000 to 2006, 2008 to 200a, 2010, 2012 to 2013, 3000
BB: b4, 2c8, 2cc
B2: 2014
HY: 2d
OP: 28, 5b, 7b, a1, bf, 201a, 201e, 2045, 3008, 300a, 300c, 300e, 3010, 3014, 3016, 3018, 301a, 301d, ff08
CL: 29, 5d, 7d, 2046, 3001 to 3002, 3009, 300b, 300d, 300f, 3011, 3015, 3017, 3019, 301b, 301e to 301f, ff09, ff0c, ff0e
QU: 22, 27, ab, bb, 2018 to 2019, 201c to 201d, 2039 to 203a
EX: 21, 3f, ff01, ff1f
IS: 2c, 2e to 2f, 3a to 3b, 2044
NS: 203c to 203d, 3005, 301c, 309b to 309e, 30a0, 30fb, 30fd to 30fe, ff1a to ff1b
CJ: 3041, 3043, 3045, 3047, 3049, 3063, 3083, 3085, 3087, 308e, 3095 to 3096, 30a1, 30a3, 30a5, 30a7, 30a9, 30c3, 30e3, 30e5, 30e7, 30ee, 30f5 to 30f6, 30fc
IN: 2024 to 2026
NU: 30 to 39, 660 to 669, 966 to 96f
PR: 24, 2b, 5c, a3 to a5, b1, 20a0 to 20cf, 2116, 2212 to 2213
PO: 25, a2, b0, 2030 to 2037, 2103
ID: 1100 to 11ff, 2e80 to 2fff, 3003 to 3004, 3006 to 3007, 3012 to 3013, 3020 to 3029, 3030 to 3040, 3042, 3044, 3046, 3048, 304a to 3062, 3064 to 3082, 3084, 3086, 3088 to 308d, 308f to 3094, 3097 to 3098, 309f, 30a2, 30a4, 30a6, 30a8, 30aa to 30c2, 30c4 to 30e2, 30e4, 30e6, 30e8 to 30ed, 30ef to 30f4, 30f7 to 30fa, 30ff to 4dbf, 4e00 to a4cf, ac00 to d7a3, f900 to faff, ff02 to ff07, ff0a to ff0b, ff0d, ff0f to ff19, ff1c to ff1e, ff20 to ff60, 1f000 to 1faff, 20000 to 3fffd
CB: fffc`

// wideRanges are the chapter's wide ranges, word by word.
const wideRanges = `1100 to 115f, 2e80 to 303e, 3041 to a4cf, ac00 to d7a3, f900 to faff, fe30 to fe4f, ff01 to ff60, ffe0 to ffe6, 1f300 to 1f64f, 1f900 to 1f9ff, 20000 to 3fffd`

// beyond is the first number behind the code points.
const beyond = 0x110000

// classNames are the classes by their numbers, as the chapter lists them.
func classNames() []string {
	return strings.Fields("AL BK CR LF NL SP ZW WJ GL CM BA BB B2 HY OP CL QU EX IS NS CJ IN NU PR PO ID CB")
}

type span struct{ from, to int32 }

func (s span) has(r int32) bool { return s.from <= r && r <= s.to }

// parse reads ranges as the chapter writes them.
func parse(t *testing.T, ranges string) []span {
	t.Helper()
	var l []span
	for _, s := range strings.Split(ranges, ", ") {
		from, to, two := strings.Cut(s, " to ")
		if !two {
			to = from
		}
		l = append(l, span{number(t, from), number(t, to)})
	}
	return l
}

func number(t *testing.T, s string) int32 {
	t.Helper()
	n, err := strconv.ParseInt(s, 16, 32)
	if err != nil {
		t.Fatal(err)
	}
	return int32(n)
}

// oracle is what the chapter's words say: the spans of each class, and the wide ones.
type oracle struct {
	classes [][]span
	wide    []span
}

func newOracle(t *testing.T) oracle {
	t.Helper()
	o := oracle{make([][]span, len(classNames())), parse(t, wideRanges)}
	for _, line := range strings.Split(classRanges, "\n") {
		name, ranges, _ := strings.Cut(line, ": ")
		o.classes[slices.Index(classNames(), name)] = parse(t, ranges)
	}
	return o
}

// in returns all classes whose spans have r; those of no span are ClAL's.
func (o oracle) in(r int32) []uint8 {
	var l []uint8
	for c, spans := range o.classes {
		for _, s := range spans {
			if s.has(r) {
				l = append(l, uint8(c))
			}
		}
	}
	if l == nil {
		return []uint8{api.ClAL}
	}
	return l
}

func (o oracle) isWide(r int32) bool {
	return slices.ContainsFunc(o.wide, func(s span) bool { return s.has(r) })
}

// check holds all calls on the number r against the chapter.
func (o oracle) check(t *testing.T, r int32) {
	t.Helper()
	in := o.in(r)
	if len(in) != 1 {
		t.Fatalf("%x is of the classes %v", r, in)
	}
	if got := class.Of(r); got != in[0] {
		t.Errorf("Of(%x) is %s, not %s", r, class.Name(got), classNames()[in[0]])
	}
	if got := class.All([]int32{r}); !slices.Equal(got, in) {
		t.Errorf("All(%x) is %v, not %v", r, got, in)
	}
	if got := class.Mark(r); got != (in[0] == api.ClCM) {
		t.Errorf("Mark(%x) is %v", r, got)
	}
	if got := class.Wide(r); got != o.isWide(r) {
		t.Errorf("Wide(%x) is %v", r, got)
	}
}

// P4.1, P4.2: both ends of every row and of every wide range, and the numbers beside them.
func TestEnds(t *testing.T) {
	o := newOracle(t)
	rows := 0
	for _, spans := range append(o.classes, o.wide) {
		rows += len(spans)
		for _, s := range spans {
			for _, r := range []int32{s.from - 1, s.from, s.from + 1, s.to - 1, s.to, s.to + 1} {
				o.check(t, r)
			}
		}
	}
	if rows != 188+11 {
		t.Errorf("the chapter has 188 rows and 11 wide ranges, this test %d in all", rows)
	}
}

// P4.1, P4.2, P4.3: every code point and those that are none beside them, each of exactly one class.
func TestEveryNumber(t *testing.T) {
	o := newOracle(t)
	for r := int32(-0x400); r < beyond+0x400; r++ {
		o.check(t, r)
	}
}

// P4.1: both ends of every row, spelt as the class's name; a class that got another's rows would show here.
func TestNamesOfRows(t *testing.T) {
	seen := 0
	for _, line := range strings.Split(classRanges, "\n") {
		name, ranges, _ := strings.Cut(line, ": ")
		seen++
		for _, s := range parse(t, ranges) {
			for _, r := range []int32{s.from, s.from + (s.to-s.from)/2, s.to} {
				if got := class.Name(class.Of(r)); got != name {
					t.Errorf("%x is %s, not %s", r, got, name)
				}
			}
		}
	}
	if seen != 26 {
		t.Errorf("%d classes have rows", seen)
	}
}

// P4.1, P4.2: numbers that are not code points are ClAL, no marks, and not wide, even if their low bits are those of a code point that is.
func TestNoCodePoints(t *testing.T) {
	l := []int32{math.MinInt32, math.MinInt32 + 1, -beyond, -0x4e2d, -0x301, -0x20, -2, -1, beyond, beyond + 1, 0x1fffff, math.MaxInt32 - 1, math.MaxInt32}
	for _, r := range []int32{0, 0x20, 0x301, 0x3041, 0x4e2d, 0xff21, 0x1f600, 0x20000, 0x3fffd, 0xe0100} {
		for bit := 21; bit < 31; bit++ {
			l = append(l, r+1<<bit, r-1<<bit)
		}
		l = append(l, r+math.MinInt32, ^r)
	}
	for _, r := range l {
		if got := class.Of(r); got != api.ClAL || class.Mark(r) || class.Wide(r) {
			t.Errorf("%x is %s, a mark %v, wide %v", r, class.Name(got), class.Mark(r), class.Wide(r))
		}
	}
	want := make([]uint8, len(l))
	if got := class.All(l); !slices.Equal(got, want) {
		t.Errorf("All(%x) is %v", l, got)
	}
}

// P4.1: numbers of no row, and surrogates, which no row has either.
func TestNoRow(t *testing.T) {
	for _, r := range []int32{0x23, 0x26, 0x2a, 0x3c, 0x3d, 0x3e, 0x40, 0x41, 0x5a, 0x5e, 0x61, 0x7a, 0x7e, 0xa6, 0xc0, 0x2ff, 0x370, 0x490, 0x600, 0x2015, 0x2027, 0x2038, 0x2061, 0x20000 - 1, 0x4dc0, 0x4dff, 0xa4d0, 0xd7a4, 0xd800, 0xdfff, 0xe000, 0xf8ff, 0xfb00, 0xfe10, 0xfe30, 0xff00, 0xff61, 0xffe0, 0xfffb, 0xfffd, 0x10000, 0x1efff, 0x1fb00, 0x3fffe, 0xe0000, 0xe01f0, 0x10ffff} {
		if got := class.Of(r); got != api.ClAL || class.Mark(r) {
			t.Errorf("%x is %s", r, class.Name(got))
		}
	}
}

// P4.2: every class's two letters; nothing for any other number.
func TestName(t *testing.T) {
	for n := range 256 {
		want := ""
		if n < 27 {
			want = classNames()[n]
		}
		if got := class.Name(uint8(n)); got != want {
			t.Errorf("Name(%d) is %q, not %q", n, got, want)
		}
	}
	for c, want := range map[uint8]string{api.ClAL: "AL", api.ClBK: "BK", api.ClCR: "CR", api.ClLF: "LF", api.ClNL: "NL", api.ClSP: "SP", api.ClZW: "ZW", api.ClWJ: "WJ", api.ClGL: "GL", api.ClCM: "CM", api.ClBA: "BA", api.ClBB: "BB", api.ClB2: "B2", api.ClHY: "HY", api.ClOP: "OP", api.ClCL: "CL", api.ClQU: "QU", api.ClEX: "EX", api.ClIS: "IS", api.ClNS: "NS", api.ClCJ: "CJ", api.ClIN: "IN", api.ClNU: "NU", api.ClPR: "PR", api.ClPO: "PO", api.ClID: "ID", api.ClCB: "CB", 27: "", 99: "", 128: "", 255: ""} {
		if got := class.Name(c); got != want {
			t.Errorf("Name(%d) is %q, not %q", c, got, want)
		}
	}
}

// P4.1, P4.2: the chapter's examples.
func TestExamples(t *testing.T) {
	for r, want := range map[int32]uint8{
		0x61: api.ClAL, 0x20: api.ClSP, 0xa: api.ClLF, 0x2d: api.ClHY, 0x4e2d: api.ClID, 0x301: api.ClCM,
		0x3041: api.ClCJ, 0x300c: api.ClOP, 0x300d: api.ClCL, 0xff0c: api.ClCL, 0xfffc: api.ClCB, -1: api.ClAL,
	} {
		if got := class.Of(r); got != want {
			t.Errorf("Of(%x) is %d, not %d", r, got, want)
		}
	}
	if !class.Wide(0x4e2d) || class.Wide(0x61) || !class.Wide(0xff21) {
		t.Error("Wide")
	}
	if !class.Mark(0x301) || class.Name(api.ClB2) != "B2" || class.Name(99) != "" {
		t.Error("Mark, Name")
	}
}

// P4.1: lists of all lengths, in order.
func TestAll(t *testing.T) {
	if got := class.All(nil); len(got) != 0 {
		t.Errorf("All of nothing is %v", got)
	}
	if got := class.All([]int32{}); len(got) != 0 {
		t.Errorf("All of an empty list is %v", got)
	}
	l := []int32{0x61, 0x61, 0x20, 0x4e2d, 0x3041, 0x301, -1, 0x20, math.MaxInt32, 0xfffc, 0x61}
	want := []uint8{api.ClAL, api.ClAL, api.ClSP, api.ClID, api.ClCJ, api.ClCM, api.ClAL, api.ClSP, api.ClAL, api.ClCB, api.ClAL}
	if got := class.All(l); !slices.Equal(got, want) {
		t.Errorf("All(%x) is %v, not %v", l, got, want)
	}
}

// P4.1: a long list, up and down, has each number's own class at its place.
func TestAllLong(t *testing.T) {
	var l []int32
	for r := int32(-1); r <= beyond; r++ {
		l = append(l, r)
	}
	for r := int32(beyond); r >= -1; r -= 7 {
		l = append(l, r)
	}
	got := class.All(l)
	if len(got) != len(l) {
		t.Fatalf("%d classes of %d numbers", len(got), len(l))
	}
	for i, r := range l {
		if got[i] != class.Of(r) {
			t.Fatalf("at %d, %x is %d, not %d", i, r, got[i], class.Of(r))
		}
	}
}

// P4.3: a class out of 27, for numbers of all lengths; 27 of them there are.
func TestOneOf27(t *testing.T) {
	seen := map[uint8]int{}
	step := int32(0x3a7)
	for r := int32(math.MinInt32); r < math.MaxInt32-step; r += step {
		c := class.Of(r)
		if c > api.ClCB || class.Name(c) == "" {
			t.Fatalf("Of(%x) is %d", r, c)
		}
	}
	for r := int32(0); r < beyond; r++ {
		seen[class.Of(r)]++
	}
	if len(seen) != 27 || seen[27] != 0 {
		t.Errorf("the classes of all code points are %v", seen)
	}
}

// P4.3: the marks that are wide.
func TestWideMarks(t *testing.T) {
	var got []int32
	for r := int32(-1); r <= beyond; r++ {
		if class.Mark(r) && class.Wide(r) {
			got = append(got, r)
		}
	}
	if want := []int32{0x302a, 0x302b, 0x302c, 0x302d, 0x302e, 0x302f, 0x3099, 0x309a}; !slices.Equal(got, want) {
		t.Errorf("wide marks are %x, not %x", got, want)
	}
}

// R5: a list, and what is behind it, is not changed; a result is new memory.
func TestMemory(t *testing.T) {
	whole := []int32{0x61, 0x20, 0x4e2d, 7, 8, 9}
	kept := slices.Clone(whole)
	one, two := class.All(whole[:3]), class.All(whole[:3])
	want := slices.Clone(two)
	one = one[:cap(one)]
	for i := range one {
		one[i] = 0xff
	}
	if !slices.Equal(whole, kept) {
		t.Errorf("the list became %x", whole)
	}
	if !slices.Equal(two, want) || !slices.Equal(class.All(whole[:3]), want) || class.Of(0x61) != api.ClAL {
		t.Error("two results of All share memory")
	}
}
