package trim_test

import (
	"math"
	"slices"
	"strings"
	"testing"

	"stickful/api"
	"stickful/trim"
)

const (
	fit      = int64(1) << 62
	greatest = int64(math.MaxInt64)
	least    = int64(math.MinInt64)
)

func cell(kind uint8, adv int64) api.Cell { return api.Cell{Kind: kind, Adv: adv} }

// line is cells by letters, as the chapter's examples have them: a space, what hangs and a character go 5, edges 2, a forced break 0; besides, a tab of 8, and an atom, a space that is kept and a Kind that has no name of 5.
func line(letters string) []api.Cell {
	cells := map[rune]api.Cell{
		'S': cell(api.CeSpace, 5), 'h': cell(api.CeHang, 5), 'c': cell(api.CeChar, 5), 'p': cell(api.CeKeep, 5), 'a': cell(api.CeAtom, 5), 'x': cell(api.CeClose+1, 5),
		'o': cell(api.CeOpen, 2), 'k': cell(api.CeClose, 2), 'f': cell(api.CeForced, 0), 't': cell(api.CeTab, 8),
	}
	l := make([]api.Cell, 0, len(letters))
	for _, letter := range letters {
		c, is := cells[letter]
		if !is {
			panic(letters)
		}
		l = append(l, c)
	}
	return l
}

// roles are those of digits.
func roles(digits string) []uint8 {
	var l []uint8
	for _, digit := range []byte(digits) {
		l = append(l, digit-'0')
	}
	return l
}

// P13.1, P13.2: the chapter's examples.
func TestExamples(t *testing.T) {
	for _, x := range []struct {
		s, roles   string
		fits, goes int64
		blank      bool
	}{
		{"SoScScSk", "10100010", 19, 19, false},
		{"chhk", "0220", 7, 17, false},
		{"cSh", "002", 10, 15, false},
		{"chS", "021", 5, 10, false},
		{"SS", "11", 0, 0, true},
		{"h", "2", 0, 5, false},
	} {
		l := line(x.s)
		expectRoles(t, l, roles(x.roles), x.blank)
		expectFits(t, l, 0, x.fits, api.OK)
		expectGoes(t, l, 0, x.goes, api.OK)
	}
}

// P13.1: lines of no cell, of one, and of many.
func TestRoles(t *testing.T) {
	for _, x := range []struct{ s, roles string }{
		{"", ""}, {"S", "1"}, {"h", "2"}, {"c", "0"}, {"p", "0"}, {"t", "0"}, {"f", "0"}, {"a", "0"}, {"o", "0"}, {"k", "0"}, {"x", "0"},

		// spaces, and what is around them
		{"Sc", "10"}, {"cS", "01"}, {"ScS", "101"}, {"cSc", "000"}, {"SSScSSScSSS", "11100000111"}, {"SSSS", "1111"},
		{"SoSkSfS", "1010101"}, {"oSc", "010"}, {"cSk", "010"}, {"kSc", "010"}, {"cSo", "010"}, {"coSkSoc", "0000000"}, {"coSkSok", "0010100"},
		{"aSa", "000"}, {"SaS", "101"}, {"pSp", "000"}, {"SpS", "101"}, {"tSt", "000"}, {"StS", "101"}, {"xSx", "000"}, {"SxS", "101"}, {"SpSc", "1000"}, {"cStS", "0001"},

		// forced breaks ahead of spaces, between them and after them
		{"fS", "01"}, {"Sf", "10"}, {"SfS", "101"}, {"cSf", "010"}, {"fSc", "010"}, {"cSfSc", "00000"}, {"cSfS", "0101"}, {"SfSc", "1010"}, {"cffSff", "000100"}, {"cfhf", "0020"},

		// what hangs, and what is after it
		{"ch", "02"}, {"hc", "00"}, {"hch", "002"}, {"hhhchhh", "0000222"}, {"hhh", "222"}, {"hok", "200"}, {"ohkhf", "02020"},
		{"ha", "00"}, {"hp", "00"}, {"ht", "00"}, {"hx", "00"}, {"ah", "02"}, {"ph", "02"}, {"th", "02"}, {"xh", "02"}, {"chohkfh", "0202002"},

		// spaces beside what hangs
		{"cSh", "002"}, {"chS", "021"}, {"cShS", "0021"}, {"chSh", "0202"}, {"cSoShSk", "0000210"}, {"cSSkfh", "000002"},
		{"Sh", "12"}, {"hS", "21"}, {"ShS", "121"}, {"hSh", "202"}, {"hShS", "2021"}, {"ShSh", "1202"}, {"oSkShSf", "0101210"},
		{"hSc", "000"}, {"hScS", "0001"}, {"Shc", "100"}, {"ShSc", "1000"}, {"ShShcShSh", "100000202"},
	} {
		expectRoles(t, line(x.s), roles(x.roles), isBlank(line(x.s)))
	}
	if got := trim.Roles(nil); len(got) != 0 {
		t.Errorf("%v", got)
	}
}

// P13.1: what a line may have that is blank, and one cell that no such line has, at each of its places.
func TestBlank(t *testing.T) {
	for _, s := range []string{"", "o", "k", "f", "S", "ok", "okf", "ko", "SSS", "oS", "So", "SfS", "oSSkSfS", "kkSooSff"} {
		l := line(s)
		if !trim.Blank(l) {
			t.Errorf("%q", s)
		}
		for _, other := range line("hcptax") {
			for at := range len(l) + 1 {
				if trim.Blank(slices.Insert(slices.Clone(l), at, other)) {
					t.Errorf("%q with %v at %d", s, other, at)
				}
			}
		}
	}
	if !trim.Blank(nil) {
		t.Error("nil")
	}
	for _, s := range []string{"cSc", "hSh", "ShS", "hh", "cc", "hf", "fh"} {
		if trim.Blank(line(s)) {
			t.Errorf("%q", s)
		}
	}
}

// P13.2: what is skipped in both, and what in Fits alone, from several numbers on.
func TestNumbers(t *testing.T) {
	for _, x := range []struct {
		s                string
		from, fits, goes int64
	}{
		{"", 0, 0, 0}, {"", -7, -7, -7}, {"", fit, fit, fit}, {"", -fit, -fit, -fit},
		{"c", -7, -2, -2}, {"S", -7, -7, -7}, {"h", -7, -7, -2}, {"f", 3, 3, 3}, {"ok", 3, 7, 7}, {"x", 1, 6, 6}, {"a", 1, 6, 6}, {"p", 1, 6, 6},
		{"SScSS", 1, 6, 6}, {"cSc", 1, 16, 16}, {"hch", 1, 11, 16}, {"chkhk", 1, 10, 20}, {"cShS", 1, 11, 16}, {"ShS", 1, 1, 6}, {"pcp", 1, 16, 16},

		// tabs
		{"t", 0, 8, 8}, {"t", 7, 8, 8}, {"t", 8, 16, 16}, {"t", -1, 0, 0}, {"t", -8, 0, 0}, {"ct", 0, 8, 8}, {"cct", 0, 16, 16}, {"ttt", 0, 24, 24},
		{"Sct", 0, 8, 8}, {"SSt", 0, 8, 8}, {"oStc", 0, 13, 13}, {"ctSS", 0, 8, 8}, {"tSt", 0, 16, 16}, {"tSSt", 0, 24, 24}, {"cSt", 4, 16, 16},
		{"th", 0, 8, 13}, {"ht", 4, 16, 16}, {"hth", 0, 8, 13}, {"thok", 0, 12, 17},
	} {
		expectFits(t, line(x.s), x.from, x.fits, api.OK)
		expectGoes(t, line(x.s), x.from, x.goes, api.OK)
	}
	expectFits(t, nil, 9, 9, api.OK)
	expectGoes(t, nil, 9, 9, api.OK)
}

// P13.2: cells that go back, also those that are skipped, and edges, which count wherever they are.
func TestBack(t *testing.T) {
	for _, x := range []struct {
		l          []api.Cell
		from       int64
		fits, goes int64
	}{
		{[]api.Cell{cell(api.CeChar, -5)}, 3, -2, -2},
		{[]api.Cell{cell(api.CeSpace, -5), cell(api.CeChar, 4)}, 0, 4, 4},
		{[]api.Cell{cell(api.CeChar, 4), cell(api.CeSpace, -5)}, 0, 4, 4},
		{[]api.Cell{cell(api.CeChar, 4), cell(api.CeSpace, -5), cell(api.CeChar, 4)}, 0, 3, 3},
		{[]api.Cell{cell(api.CeChar, 4), cell(api.CeHang, -5)}, 0, 4, -1},
		{[]api.Cell{cell(api.CeHang, -5), cell(api.CeChar, 4)}, 0, -1, -1},
		{[]api.Cell{cell(api.CeOpen, -3), cell(api.CeSpace, 100), cell(api.CeClose, -4), cell(api.CeForced, 50)}, 0, 43, 43},
		{[]api.Cell{cell(api.CeChar, 9), cell(api.CeHang, -7), cell(api.CeClose, -1)}, 0, 8, 1},
		{[]api.Cell{cell(api.CeChar, -9), cell(api.CeTab, 8), cell(api.CeHang, 1)}, 0, -8, -7},
	} {
		expectFits(t, x.l, x.from, x.fits, api.OK)
		expectGoes(t, x.l, x.from, x.goes, api.OK)
	}
}

// P13.1, P13.2: of a cell only Kind and Adv count, and for its role the Kind alone.
func TestOtherFields(t *testing.T) {
	l := line("SoShcSthSk")
	want := roles("1010000210")
	for _, c := range []api.Cell{{}, {Node: 7, Char: 3}, {Node: -1, Char: -1}, {Soft: true}, {Emerg: true}, {Node: math.MinInt, Char: math.MaxInt, Soft: true, Emerg: true}} {
		other := slices.Clone(l)
		for i := range other {
			other[i] = c
			other[i].Kind, other[i].Adv = l[i].Kind, l[i].Adv
		}
		expectRoles(t, other, want, false)
		expectFits(t, other, 0, 26, api.OK)
		expectGoes(t, other, 0, 31, api.OK)
		for _, adv := range []int64{least, -1, 0, 1, greatest} {
			for i := range other {
				other[i].Adv = adv
			}
			expectRoles(t, other, want, false)
		}
	}
}

// P13.1, P13.2, R1: long lines do not take long.
func TestLongLines(t *testing.T) {
	const most = 1 << 20
	for _, x := range []struct {
		begin, many, end string
		role             uint8
		blank            bool
		fits, goes       int64
	}{
		{"", "S", "", api.RoGone, true, 0, 0}, {"c", "S", "", api.RoGone, false, 5, 5}, {"", "S", "c", api.RoGone, false, 5, 5}, {"c", "S", "c", api.RoKept, false, 5*most + 10, 5*most + 10},
		{"", "h", "", api.RoHang, false, 0, 5 * most}, {"", "h", "c", api.RoKept, false, 5*most + 5, 5*most + 5}, {"c", "S", "h", api.RoKept, false, 5*most + 5, 5*most + 10},
		{"", "o", "", api.RoKept, true, 2 * most, 2 * most}, {"S", "f", "S", api.RoKept, true, 0, 0}, {"", "t", "", api.RoKept, false, 8 * most, 8 * most},
	} {
		l := line(x.begin + strings.Repeat(x.many, most) + x.end)
		got := trim.Roles(l)
		middle := got[len(x.begin) : len(got)-len(x.end)]
		if len(got) != len(l) || slices.ContainsFunc(middle, func(role uint8) bool { return role != x.role }) || trim.Blank(l) != x.blank {
			t.Errorf("%q, many %q, %q: the roles, or whether it is blank", x.begin, x.many, x.end)
		}
		fits, e := trim.Fits(l, 0)
		goes, f := trim.Goes(l, 0)
		if fits != x.fits || goes != x.goes || e != api.OK || f != api.OK {
			t.Errorf("%q, many %q, %q: %d, %d, %d, %d", x.begin, x.many, x.end, fits, e, goes, f)
		}
	}
}
