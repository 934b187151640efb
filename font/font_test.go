package font_test

import (
	"math"
	"math/big"
	"slices"
	"testing"

	"stickful/api"
	"stickful/font"
)

const (
	greatest = int64(math.MaxInt64)
	least    = int64(math.MinInt64)
)

// example is the chapter's font.
func example() api.Font {
	return api.Font{Ascent: 800, Descent: 224, Gap: 0, XHeight: 512, Other: 512, Ranges: []api.Advance{{From: 0x20, To: 0x20, Adv: 256}, {From: 0x4e00, To: 0x9fff, Adv: 1024}}}
}

// field is one of a font's numbers.
type field struct {
	name string
	in   func(f *api.Font) *int
}

func fields() []field {
	return []field{
		{"Ascent", func(f *api.Font) *int { return &f.Ascent }},
		{"Descent", func(f *api.Font) *int { return &f.Descent }},
		{"Gap", func(f *api.Font) *int { return &f.Gap }},
		{"XHeight", func(f *api.Font) *int { return &f.XHeight }},
		{"Other", func(f *api.Font) *int { return &f.Other }},
		{"the first Adv", func(f *api.Font) *int { return &f.Ranges[0].Adv }},
		{"the last Adv", func(f *api.Font) *int { return &f.Ranges[1].Adv }},
	}
}

// validNumbers are both ends of what is valid, and what is between.
func validNumbers() []int { return []int{0, 1, 2, 3, 511, 512, 513, 1023, 1024, 1025, 8191, 8192} }

// wrongNumbers are beside both ends; some of them have valid lower words.
func wrongNumbers() []int {
	return []int{-1, -2, -8192, 8193, 8194, 1 << 16, 1<<16 + 1, 1 << 32, 1<<32 + 512, -1 << 32, math.MaxInt, math.MinInt}
}

func validSizes() []int64 {
	return []int64{0, 1, 2, 3, 511, 512, 513, 640, 1023, 1024, 1025, 1 << 20, api.MaxUnit - 1, api.MaxUnit}
}

// wrongSizes are beside both ends; some of them have valid lower words.
func wrongSizes() []int64 {
	return []int64{-1, -2, -1024, -api.MaxUnit, -api.MaxUnit - 1, api.MaxUnit + 1, api.MaxUnit + 2, 1 << 32, 1<<32 + 1024, -1 << 32, 1 << 62, greatest, least, least + 1024}
}

// measure is a call that returns one of a font's numbers at a size, and how such a number is written into a font.
type measure struct {
	name string
	call func(f api.Font, size int64) int64
	set  func(f *api.Font, n int)
}

func measures() []measure {
	return []measure{
		{"Up", font.Up, func(f *api.Font, n int) { f.Ascent = n }},
		{"Down", font.Down, func(f *api.Font, n int) { f.Descent = n }},
		{"Gap", font.Gap, func(f *api.Font, n int) { f.Gap = n }},
		{"X", font.X, func(f *api.Font, n int) { f.XHeight = n }},
		{"Advance in a range", advanceOf(0x20), func(f *api.Font, n int) { f.Ranges[0].Adv = n }},
		{"Advance in the last range", advanceOf(0x4e2d), func(f *api.Font, n int) { f.Ranges[1].Adv = n }},
		{"Advance in none", advanceOf('a'), func(f *api.Font, n int) { f.Other = n }},
		{"Text", textOf(0x20), func(f *api.Font, n int) { f.Ranges[0].Adv = n }},
		{"Text in none", textOf('a'), func(f *api.Font, n int) { f.Other = n }},
	}
}

func advanceOf(r int32) func(f api.Font, size int64) int64 {
	return func(f api.Font, size int64) int64 { return font.Advance(f, size, r) }
}

func textOf(l ...int32) func(f api.Font, size int64) int64 {
	return func(f api.Font, size int64) int64 { return font.Text(f, size, l) }
}

// exact is a valid number at a valid size: the floor of the quotient and a half.
func exact(number int, size int64) int64 {
	twice := new(big.Int).Mul(big.NewInt(int64(number)), big.NewInt(size))
	twice.Lsh(twice, 1).Add(twice, big.NewInt(1024))
	return twice.Div(twice, big.NewInt(2048)).Int64()
}

// inRow has n ranges of two code points each, in order.
func inRow(n int) []api.Advance {
	var l []api.Advance
	for i := range n {
		l = append(l, api.Advance{From: int32(3 * i), To: int32(3*i + 1), Adv: i})
	}
	return l
}

func check(t *testing.T, what string, f api.Font, want api.Errno) {
	t.Helper()
	if e := font.Check(f); e != want {
		t.Errorf("Check of a font with %s is %d, want %d", what, e, want)
	}
}

// P5.1 to P5.3: the chapter's examples.
func TestExamples(t *testing.T) {
	f := example()
	for i, x := range []struct{ got, want int64 }{
		{font.Advance(f, 1024, 0x61), 512}, {font.Advance(f, 1024, 0x20), 256}, {font.Advance(f, 640, 0x4e2d), 640}, {font.Advance(f, 3, 0x61), 2},
		{font.Up(f, 1024), 800}, {font.Down(f, 640), 140}, {font.X(f, 1), 1}, {font.Gap(f, 9), 0}, {font.Up(f, -1), 0},
		{font.Text(f, 1024, []int32{0x61, 0x20, 0x61}), 1280},
	} {
		if x.got != x.want {
			t.Errorf("%d: %d, want %d", i, x.got, x.want)
		}
	}
	check(t, "the example's ranges", f, api.OK)
	f.Ranges[0], f.Ranges[1] = f.Ranges[1], f.Ranges[0]
	check(t, "the example's ranges, turned", f, api.ErrFont)
}

// P5.1
func TestCheckNumbers(t *testing.T) {
	for _, x := range fields() {
		for _, n := range validNumbers() {
			f := example()
			*x.in(&f) = n
			check(t, x.name, f, api.OK)
		}
		for _, n := range wrongNumbers() {
			f := example()
			*x.in(&f) = n
			check(t, x.name, f, api.ErrFont)
		}
	}
}

// P5.1: each Adv counts, also in a font of as many ranges as there may be.
func TestCheckEachAdv(t *testing.T) {
	f := api.Font{Ranges: inRow(api.MaxRanges)}
	for i := range f.Ranges {
		for _, n := range []int{-1, 8193} {
			f.Ranges[i].Adv = n
			check(t, "a wrong Adv", f, api.ErrFont)
		}
		f.Ranges[i].Adv = 8192
		check(t, "each Adv up to here 8192", f, api.OK)
	}
}

// P5.1
func TestCheckNumberOfRanges(t *testing.T) {
	check(t, "nothing", api.Font{}, api.OK)
	check(t, "an empty list", api.Font{Ranges: []api.Advance{}}, api.OK)
	for _, x := range []struct {
		n    int
		want api.Errno
	}{{1, api.OK}, {2, api.OK}, {255, api.OK}, {256, api.OK}, {257, api.ErrFont}, {258, api.ErrFont}, {512, api.ErrFont}, {1 << 16, api.ErrFont}} {
		check(t, "ranges in a row", api.Font{Ranges: inRow(x.n)}, x.want)
	}
}

// P5.1
func TestCheckRanges(t *testing.T) {
	for _, x := range []struct {
		what string
		l    []api.Advance
		want api.Errno
	}{
		{"the first code point", []api.Advance{{From: 0, To: 0}}, api.OK},
		{"the last code point", []api.Advance{{From: 0x10ffff, To: 0x10ffff}}, api.OK},
		{"all code points", []api.Advance{{From: 0, To: 0x10ffff}}, api.OK},
		{"code points that are no characters", []api.Advance{{From: 0xd800, To: 0xdfff}, {From: 0xfffe, To: 0xffff}}, api.OK},
		{"one from below 0", []api.Advance{{From: -1, To: 5}}, api.ErrFont},
		{"one below 0", []api.Advance{{From: -5, To: -1}}, api.ErrFont},
		{"one of -1", []api.Advance{{From: -1, To: -1}}, api.ErrFont},
		{"one from the least number", []api.Advance{{From: math.MinInt32, To: 5}}, api.ErrFont},
		{"one beyond the last code point", []api.Advance{{From: 0x10ffff, To: 0x110000}}, api.ErrFont},
		{"one of 110000", []api.Advance{{From: 0x110000, To: 0x110000}}, api.ErrFont},
		{"one to the greatest number", []api.Advance{{From: 5, To: math.MaxInt32}}, api.ErrFont},
		{"one from the least to the greatest number", []api.Advance{{From: math.MinInt32, To: math.MaxInt32}}, api.ErrFont},
		{"a later one beyond the last code point", []api.Advance{{From: 1, To: 2}, {From: 3, To: 0x110000}}, api.ErrFont},
		{"a later one below 0", []api.Advance{{From: 1, To: 2}, {From: -2, To: -1}}, api.ErrFont},
		{"To just below From", []api.Advance{{From: 6, To: 5}}, api.ErrFont},
		{"To far below From", []api.Advance{{From: 0x10ffff, To: 0}}, api.ErrFont},
		{"To below From, and below 0", []api.Advance{{From: 0, To: -1}}, api.ErrFont},
		{"To below From in a later one", []api.Advance{{From: 1, To: 2}, {From: 9, To: 8}}, api.ErrFont},
		{"To below From between others", []api.Advance{{From: 1, To: 2}, {From: 9, To: 8}, {From: 12, To: 13}}, api.ErrFont},
		{"neighbours", []api.Advance{{From: 1, To: 4}, {From: 5, To: 5}, {From: 6, To: 9}}, api.OK},
		{"a code point between", []api.Advance{{From: 1, To: 4}, {From: 6, To: 9}}, api.OK},
		{"a common code point", []api.Advance{{From: 1, To: 5}, {From: 5, To: 9}}, api.ErrFont},
		{"an overlap", []api.Advance{{From: 1, To: 6}, {From: 5, To: 9}}, api.ErrFont},
		{"one within another one", []api.Advance{{From: 1, To: 9}, {From: 3, To: 4}}, api.ErrFont},
		{"the same twice", []api.Advance{{From: 3, To: 4}, {From: 3, To: 4}}, api.ErrFont},
		{"the same code point twice", []api.Advance{{From: 0, To: 0}, {From: 0, To: 0}}, api.ErrFont},
		{"the wrong order", []api.Advance{{From: 5, To: 9}, {From: 1, To: 4}}, api.ErrFont},
		{"the wrong order at the end", []api.Advance{{From: 1, To: 2}, {From: 7, To: 9}, {From: 3, To: 5}}, api.ErrFont},
		{"an overlap at the end", []api.Advance{{From: 1, To: 2}, {From: 3, To: 5}, {From: 5, To: 9}}, api.ErrFont},
	} {
		check(t, x.what, api.Font{Ranges: x.l}, x.want)
	}
}

// P5.2
func TestAdvanceAtTheEndsOfRanges(t *testing.T) {
	f := api.Font{Other: 100, Ranges: []api.Advance{{From: 0, To: 0, Adv: 1}, {From: 2, To: 4, Adv: 2}, {From: 5, To: 5, Adv: 3}, {From: 0x20, To: 0x7e, Adv: 4}, {From: 0xfff0, To: 0x1000f, Adv: 5}, {From: 0x10fffe, To: 0x10ffff, Adv: 6}}}
	check(t, "ranges of all kinds", f, api.OK)
	for _, x := range []struct {
		r    int32
		want int64
	}{
		{-1, 100}, {0, 1}, {1, 100}, {2, 2}, {3, 2}, {4, 2}, {5, 3}, {6, 100},
		{0x1f, 100}, {0x20, 4}, {0x21, 4}, {0x7d, 4}, {0x7e, 4}, {0x7f, 100},
		{0xffef, 100}, {0xfff0, 5}, {0x10000, 5}, {0x1000f, 5}, {0x10010, 100}, {0xd800, 100},
		{0x10fffd, 100}, {0x10fffe, 6}, {0x10ffff, 6}, {0x110000, 100}, {math.MaxInt32, 100}, {math.MinInt32, 100}, {-0x20, 100},
	} {
		if got := font.Advance(f, 1024, x.r); got != x.want {
			t.Errorf("Advance of %x is %d, want %d", x.r, got, x.want)
		}
	}
}

// P5.2: of 256 ranges each is found, the last one of them and of more, too.
func TestAdvanceOfManyRanges(t *testing.T) {
	for _, n := range []int{1, 255, 256, 257, 1000} {
		f := api.Font{Other: 7000, Ranges: inRow(n)}
		for i, a := range f.Ranges {
			if from, to, beside := font.Advance(f, 1024, a.From), font.Advance(f, 1024, a.To), font.Advance(f, 1024, a.To+1); from != int64(i) || to != int64(i) || beside != 7000 {
				t.Errorf("%d ranges: the one at %d is %d, %d, and %d beside it", n, i, from, to, beside)
			}
		}
	}
}

// P5.2: no ranges, in either form of an empty list.
func TestAdvanceOfNoRanges(t *testing.T) {
	for _, l := range [][]api.Advance{nil, {}} {
		f := api.Font{Other: 640, Ranges: l}
		for _, r := range []int32{0, 0x20, 0x10ffff, -1, 0x110000, math.MinInt32, math.MaxInt32} {
			if got := font.Advance(f, 1024, r); got != 640 {
				t.Errorf("Advance of %x is %d", r, got)
			}
		}
	}
}

// P5.2: in a font that is not valid the first range counts that contains the number.
func TestAdvanceInSeveralRanges(t *testing.T) {
	f := api.Font{Other: 9, Ranges: []api.Advance{{From: 50, To: 60, Adv: 1}, {From: 0, To: 100, Adv: 2}, {From: 40, To: 70, Adv: 3}, {From: 100, To: 110, Adv: 4}, {From: 120, To: 115, Adv: 5}, {From: -9, To: -5, Adv: 6}, {From: 0x10ffff, To: 0x110005, Adv: 7}}}
	check(t, "ranges in disorder", f, api.ErrFont)
	for _, x := range []struct {
		r    int32
		want int64
	}{
		{50, 1}, {55, 1}, {60, 1}, {49, 2}, {61, 2}, {45, 2}, {65, 2}, {0, 2}, {100, 2}, {101, 4}, {110, 4}, {111, 9},
		{115, 9}, {117, 9}, {120, 9}, {-10, 9}, {-9, 6}, {-5, 6}, {-4, 9}, {-1, 9}, {0x10fffe, 9}, {0x10ffff, 7}, {0x110000, 7}, {0x110005, 7}, {0x110006, 9},
	} {
		if got := font.Advance(f, 1024, x.r); got != x.want {
			t.Errorf("Advance of %d is %d, want %d", x.r, got, x.want)
		}
	}
}

// P5.2: the first range counts even if its Adv is not valid, and the others' would be.
func TestAdvanceOfAWrongAdv(t *testing.T) {
	f := api.Font{Other: 5, Ranges: []api.Advance{{From: 1, To: 3, Adv: -1}, {From: 2, To: 4, Adv: 8193}, {From: 1, To: 9, Adv: 7}}}
	for i, want := range []int64{5, 0, 0, 0, 0, 7} {
		if got := font.Advance(f, 1024, int32(i)); got != want {
			t.Errorf("Advance of %d is %d, want %d", i, got, want)
		}
	}
	if got := font.Text(f, 1024, []int32{0, 1, 2, 3, 4, 5}); got != 12 {
		t.Error(got)
	}
}

// P5.2, P5.3: numbers and sizes that are valid.
func TestMeasures(t *testing.T) {
	for _, m := range measures() {
		for _, n := range validNumbers() {
			for _, size := range validSizes() {
				f := example()
				m.set(&f, n)
				if got, want := m.call(f, size), exact(n, size); got != want {
					t.Errorf("%s of %d at %d is %d, want %d", m.name, n, size, got, want)
				}
			}
		}
	}
}

// P5.2, P5.3: each call takes its own number.
func TestEachNumberIsItsOwn(t *testing.T) {
	f := api.Font{Ascent: 1, Descent: 2, Gap: 3, XHeight: 4, Other: 5, Ranges: []api.Advance{{From: 0x20, To: 0x20, Adv: 6}, {From: 0x4e00, To: 0x9fff, Adv: 7}}}
	for i, got := range []int64{font.Up(f, 1024), font.Down(f, 1024), font.Gap(f, 1024), font.X(f, 1024), font.Advance(f, 1024, 'a'), font.Advance(f, 1024, 0x20), font.Advance(f, 1024, 0x9fff)} {
		if got != int64(i+1) {
			t.Errorf("%d instead of %d", got, i+1)
		}
	}
}

// P5.2, P5.3: a number that is not valid is 0; the others of its font stay what they are.
func TestMeasuresOfWrongNumbers(t *testing.T) {
	for i, m := range measures() {
		for _, n := range wrongNumbers() {
			f := example()
			m.set(&f, n)
			check(t, "a wrong number", f, api.ErrFont)
			for _, size := range append(validSizes(), wrongSizes()...) {
				if got := m.call(f, size); got != 0 {
					t.Errorf("%s of %d at %d is %d", m.name, n, size, got)
				}
			}
			for j, other := range measures()[:7] {
				if want := other.call(example(), 640); i < 7 && j != i && other.call(f, 640) != want {
					t.Errorf("%s beside %s of %d is not %d", other.name, m.name, n, want)
				}
			}
		}
	}
}

// P5.2, P5.3: fonts that are not valid by their ranges alone have their measures; no range of them contains 5.
func TestMeasuresOfFontsThatAreNotValid(t *testing.T) {
	for n, l := range [][]api.Advance{inRow(257), {{From: 5, To: 4, Adv: 1}}, {{From: -1, To: -1, Adv: 1}}, {{From: 7, To: 0x110000, Adv: -1}}, {{From: 9, To: 9}, {From: 1, To: 1}}} {
		f := api.Font{Ascent: 800, Descent: 224, Gap: 16, XHeight: 512, Other: 640, Ranges: l}
		check(t, "wrong ranges", f, api.ErrFont)
		for i, x := range []struct{ got, want int64 }{
			{font.Up(f, 1024), 800}, {font.Down(f, 1024), 224}, {font.Gap(f, 1024), 16}, {font.X(f, 1024), 512},
			{font.Advance(f, 1024, 5), 640}, {font.Text(f, 1024, []int32{5, 5}), 1280},
		} {
			if x.got != x.want {
				t.Errorf("ranges %d, call %d: %d, want %d", n, i, x.got, x.want)
			}
		}
	}
}

// P5.2, P5.3: a size that is not valid makes everything 0.
func TestWrongSizes(t *testing.T) {
	f := api.Font{Ascent: 8192, Descent: 8192, Gap: 8192, XHeight: 8192, Other: 8192, Ranges: []api.Advance{{From: 0x20, To: 0x20, Adv: 8192}, {From: 0x4e00, To: 0x9fff, Adv: 8192}}}
	check(t, "8192 everywhere", f, api.OK)
	for _, m := range measures() {
		for _, size := range wrongSizes() {
			if got := m.call(f, size); got != 0 {
				t.Errorf("%s at %d is %d", m.name, size, got)
			}
		}
		if got := m.call(f, api.MaxUnit); got != 8*api.MaxUnit {
			t.Errorf("%s at MaxUnit is %d", m.name, got)
		}
	}
	if got := font.Text(f, -1, []int32{1, 2, 3, 0x20}); got != 0 {
		t.Error(got)
	}
}

// P5.2, P5.3: halfway the greater number counts.
func TestRoundings(t *testing.T) {
	for _, x := range []struct {
		number int
		size   int64
		want   int64
	}{
		{512, 1, 1}, {511, 1, 0}, {513, 1, 1}, {1, 512, 1}, {1, 511, 0}, {1, 513, 1}, {1, 1, 0},
		{512, 3, 2}, {512, 5, 3}, {512, 7, 4}, {1536, 1, 2}, {1535, 1, 1}, {1537, 1, 2}, {2560, 1, 3}, {7680, 1, 8}, {7679, 1, 7},
		{256, 2, 1}, {256, 6, 2}, {256, 10, 3}, {256, 1, 0}, {256, 3, 1}, {1, 1536, 2}, {1, 1535, 1}, {3, 512, 2}, {5, 512, 3},
		{1, api.MaxUnit, 1 << 20}, {1, api.MaxUnit - 512, 1 << 20}, {1, api.MaxUnit - 513, 1<<20 - 1}, {8191, api.MaxUnit, 8191 << 20}, {512, api.MaxUnit - 1, 1 << 29},
	} {
		for _, m := range measures() {
			f := example()
			m.set(&f, x.number)
			if got := m.call(f, x.size); got != x.want {
				t.Errorf("%s of %d at %d is %d, want %d", m.name, x.number, x.size, got, x.want)
			}
		}
	}
}

// P5.2: each advance is rounded, not their sum.
func TestTextRoundsEachAdvance(t *testing.T) {
	f := example()
	for _, x := range []struct {
		size, want int64
		l          []int32
	}{
		{1, 3, []int32{'a', 'b', 'c'}}, {3, 6, []int32{'a', 'b', 'c'}}, {1, 0, []int32{0x20, 0x20, 0x20, 0x20}}, {2, 4, []int32{0x20, 0x20, 0x20, 0x20}},
		{1, 2, []int32{0x20, 0x4e00, 'a', 0x20}}, {3, 6, []int32{0x4e00, 'a', 0x20}},
	} {
		if got := font.Text(f, x.size, x.l); got != x.want {
			t.Errorf("Text of %x at %d is %d, want %d", x.l, x.size, got, x.want)
		}
	}
}

// P5.2
func TestTextOfNothing(t *testing.T) {
	for _, l := range [][]int32{nil, {}} {
		for _, size := range append(validSizes(), wrongSizes()...) {
			if got := font.Text(example(), size, l); got != 0 {
				t.Errorf("Text of nothing at %d is %d", size, got)
			}
		}
	}
}

// P5.2: the sum of what Advance returns, for code points in and beside ranges, and numbers that are not code points.
func TestTextIsTheSum(t *testing.T) {
	var l []int32
	for i := range int32(3000) {
		l = append(l, i%0x40, 0x4dff+i%3, 0xa000-i%3, -i, 0x110000-i%2, i*977)
	}
	for _, f := range []api.Font{example(), {}, {Other: 8192}, {Other: -1, Ranges: []api.Advance{{From: 0, To: 9, Adv: 3}, {From: 5, To: 99, Adv: 1000}}}} {
		for _, size := range append(validSizes(), wrongSizes()...) {
			sum := int64(0)
			for i, r := range l {
				if i < 64 && font.Text(f, size, l[:i]) != sum {
					t.Errorf("Text of the first %d at %d is not %d", i, size, sum)
				}
				sum += font.Advance(f, size, r)
			}
			if got := font.Text(f, size, l); got != sum {
				t.Errorf("Text at %d is %d, want %d", size, got, sum)
			}
		}
	}
}

// P5.2: a long text of the greatest advances.
func TestLongText(t *testing.T) {
	l := make([]int32, 1<<20)
	if got := font.Text(api.Font{Other: 8192}, api.MaxUnit, l); got != 1<<53 {
		t.Error(got)
	}
	if got := font.Text(api.Font{Other: 8192}, 1, l[:len(l)-1]); got != 8*(1<<20-1) {
		t.Error(got)
	}
}

// P5.4: from 0 to 8 times MaxUnit, for Text for each code point.
func TestResultsAreWithinBounds(t *testing.T) {
	for _, m := range measures() {
		for _, n := range append(validNumbers(), wrongNumbers()...) {
			for _, size := range append(validSizes(), wrongSizes()...) {
				f := example()
				m.set(&f, n)
				if got := m.call(f, size); got < 0 || got > 8*api.MaxUnit {
					t.Errorf("%s of %d at %d is %d", m.name, n, size, got)
				}
				if got := font.Text(f, size, []int32{0x20, 'a', 0x4e2d, -1}); got < 0 || got > 4*8*api.MaxUnit {
					t.Errorf("Text of %d at %d is %d", n, size, got)
				}
			}
		}
	}
}

// P5.4: every valid number is itself at 1024, and 0 at 0.
func TestNumbersAreThemselves(t *testing.T) {
	for _, m := range measures() {
		for n := 0; n <= 8192; n++ {
			f := example()
			m.set(&f, n)
			if got := m.call(f, 1024); got != int64(n) {
				t.Errorf("%s of %d at 1024 is %d", m.name, n, got)
			}
			if got := m.call(f, 0); got != 0 {
				t.Errorf("%s of %d at 0 is %d", m.name, n, got)
			}
		}
	}
}

// P5.4: not less at a greater size.
func TestNotLessAtAGreaterSize(t *testing.T) {
	var sizes []int64
	for size := int64(0); size <= 4100; size++ {
		sizes = append(sizes, size)
	}
	for size := int64(4101); size < api.MaxUnit; size += size/7 + 1 {
		sizes = append(sizes, size, size+1)
	}
	sizes = append(sizes, api.MaxUnit-1, api.MaxUnit)
	slices.Sort(sizes)
	for _, m := range measures() {
		for _, n := range validNumbers() {
			f := example()
			m.set(&f, n)
			before := int64(0)
			for _, size := range sizes {
				got := m.call(f, size)
				if got < before {
					t.Errorf("%s of %d at %d is %d, after %d", m.name, n, size, got, before)
				}
				before = got
			}
		}
	}
}

// R4, R5: what is passed, and what is behind it in its memory, is not changed, and does not count.
func TestArgumentsStay(t *testing.T) {
	ranges := append(inRow(5), api.Advance{From: -7, To: -9, Adv: -1}, api.Advance{From: 100, To: 200, Adv: 3})
	text := []int32{0, 1, 2, -1, 150, 3, 4}
	f := api.Font{Ascent: 1, Other: 6, Ranges: ranges[:5]}
	keptRanges, keptText := slices.Clone(ranges), slices.Clone(text)
	for range 2 {
		check(t, "others behind its ranges", f, api.OK)
		if got := font.Text(f, 1024, text[:5]); got != 0+0+6+6+6 {
			t.Error(got)
		}
		if got := font.Advance(f, 1024, 150); got != 6 {
			t.Error(got)
		}
		for _, m := range measures()[:4] {
			m.call(f, 1024)
		}
	}
	if !slices.Equal(ranges, keptRanges) || !slices.Equal(text, keptText) {
		t.Errorf("the lists became %v, %x", ranges, text)
	}
}
