package chance_test

import (
	"math"
	"slices"
	"strings"
	"testing"

	"stickful/api"
	"stickful/chance"
	"stickful/class"
)

// kinds are the signs that stand for other characters than a text's: ChSpace, ChHang, ChKeep, ChTab, ChForced and ChAtom.
const kinds = "_~+>|^"

// list reads a text with such signs in it.
func list(text string) []api.Char {
	var l []api.Char
	for _, r := range text {
		c := api.Char{R: r}
		if at := strings.IndexRune(kinds, r); at >= 0 {
			c.Kind = api.ChSpace + uint8(at)
			c.R = []int32{' ', ' ', ' ', '\t', '\n', 0xfffc}[at]
		}
		l = append(l, c)
	}
	return l
}

// on gives the characters the nodes that the digits are, one after the other.
func on(l []api.Char, nodes string) []api.Char {
	l = slices.Clone(l)
	for i, n := range digits(nodes) {
		l[i].Node = n
	}
	return l
}

func digits(text string) []int {
	var l []int
	for _, r := range text {
		l = append(l, int(r-'0'))
	}
	return l
}

// show writes what is at the places of l, as digits, or "error" and the number.
func show(l []api.Char, s []api.Style, rules []int) string {
	got, e := chance.Chances(l, s, rules)
	if e != api.OK {
		return "error " + string(rune('0'+int(e))) + strings.Repeat("!", len(got))
	}
	var b strings.Builder
	for _, is := range got {
		b.WriteByte('0' + is)
	}
	return b.String()
}

// all expects that of a text in one style.
func all(t *testing.T, text string, s api.Style, want string) {
	t.Helper()
	l := list(text)
	if got := show(l, []api.Style{s}, make([]int, len(l))); got != want {
		t.Errorf("%q in %v: %s, want %s", text, s, got, want)
	}
}

// mixed expects that of a text whose characters are of these nodes, and whose places are ruled by these.
func mixed(t *testing.T, text, nodes, rules string, s []api.Style, want string) {
	t.Helper()
	if got := show(on(list(text), nodes), s, digits(rules)); got != want {
		t.Errorf("%q of %s, ruled by %s, in %v: %s, want %s", text, nodes, rules, s, got, want)
	}
}

// Styles of one part.
func white(w uint8) api.Style { return api.Style{White: w} }
func word(w uint8) api.Style  { return api.Style{Word: w} }
func wrap(w uint8) api.Style  { return api.Style{Wrap: w} }
func line(l uint8) api.Style  { return api.Style{Line: l} }

// P10.1: the chapter's examples.
func TestExamples(t *testing.T) {
	all(t, "a_b", api.Style{}, "001")
	all(t, "a_b", api.Style{Tab: 8, Size: 1024}, "001")
	all(t, "a_b", white(api.WhNowrap), "000")
	all(t, "abc", wrap(api.WrAnywhere), "022")
	all(t, "ab", word(api.WoBreakAll), "01")
	all(t, "ab", line(api.LnAnywhere), "01")
	all(t, "漢字", api.Style{}, "01")
	all(t, "漢字", word(api.WoKeepAll), "00")
	all(t, "++a", white(api.WhBreakSpaces), "011")
	all(t, "a|b", api.Style{}, "000")
}

// P10.1: lists of nothing, with styles or without any.
func TestNothing(t *testing.T) {
	for _, l := range [][]api.Char{nil, {}, list("a_b")[:0]} {
		for _, s := range [][]api.Style{nil, {}, {{}, {}}} {
			for _, rules := range [][]int{nil, {}, []int{0, 1}[:0]} {
				if got, e := chance.Chances(l, s, rules); e != api.OK || len(got) != 0 {
					t.Errorf("%v, %v, %v: %v, %d", l, s, rules, got, e)
				}
			}
		}
	}
}

// P10.1: one character of each Kind has nothing before it, whatever its style, and whatever is passed for the place 0.
func TestOneCharacter(t *testing.T) {
	for n, s := range allStyles() {
		for _, c := range symbols() {
			for _, rule := range []int{0, -1, n, math.MaxInt, math.MinInt} {
				if got := show([]api.Char{c}, []api.Style{s}, []int{rule}); got != "0" {
					t.Fatalf("%v in %v, ruled by %d: %s", c, s, rule, got)
				}
			}
		}
	}
}

// P10.1: each row at a place where it is the first whose condition holds.
func TestEachRow(t *testing.T) {
	// Nothing is before, what is forced is beside, or lines are kept whole.
	all(t, "a", line(api.LnAnywhere), "0")
	all(t, "|a", line(api.LnAnywhere), "00")
	all(t, "a|", line(api.LnAnywhere), "00")
	all(t, "漢_字", white(api.WhNowrap), "000")
	all(t, "漢_字", white(api.WhPre), "000")
	// White that is kept has its own style.
	all(t, "a+b>c", white(api.WhBreakSpaces), "00101")
	all(t, "+)", white(api.WhBreakSpaces), "01")
	all(t, ">\u0301", white(api.WhBreakSpaces), "01")
	// White that may go, or hang.
	all(t, "a_", api.Style{}, "00")
	all(t, "漢~", api.Style{}, "00")
	all(t, "^_", line(api.LnAnywhere), "00")
	all(t, "漢~", wrap(api.WrAnywhere), "00")
	// Anywhere, but before a mark.
	all(t, "a\u0301", line(api.LnAnywhere), "00")
	all(t, "_\u0301", line(api.LnAnywhere), "00")
	all(t, "(a", line(api.LnAnywhere), "01")
	all(t, "\u2060,", line(api.LnAnywhere), "01")
	all(t, "a+", line(api.LnAnywhere), "01")
	// Pairs of classes.
	all(t, "^a", api.Style{}, "01")
	all(t, "_\u0301", api.Style{}, "01")
	all(t, "漢^", word(api.WoKeepAll), "01")
	// What is left.
	all(t, "ab", wrap(api.WrAnywhere), "02")
	all(t, "漢字", api.Style{Word: api.WoKeepAll, Wrap: api.WrAnywhere}, "02")
	all(t, "a\u0301", wrap(api.WrAnywhere), "00")
	all(t, "ab", api.Style{}, "00")
	all(t, "(漢", api.Style{}, "00")
}

// P10.1: rows in their order, where more than one holds.
func TestRowsInOrder(t *testing.T) {
	anywhere := api.Style{Line: api.LnAnywhere, Wrap: api.WrAnywhere}
	keeping := api.Style{White: api.WhBreakSpaces, Line: api.LnAnywhere, Wrap: api.WrAnywhere}
	for _, w := range []uint8{api.WhNowrap, api.WhPre} {
		whole := anywhere
		whole.White = w
		all(t, "a漢_字+b\u0301^", whole, "00000000")
		mixed(t, "+a>漢", "0000", "1111", []api.Style{keeping, whole}, "0000")
	}
	all(t, "|+|>|", keeping, "00000")
	all(t, "漢|字", anywhere, "000")
	all(t, "+_", keeping, "01")
	all(t, ">~", keeping, "01")
	all(t, "+\u0301", keeping, "01")
	all(t, "a_\u0301~", anywhere, "0000")
	all(t, "漢字", anywhere, "01")
	all(t, "^\u0301^", anywhere, "001")
	all(t, "漢字", wrap(api.WrAnywhere), "01")
	mixed(t, "^_", "00", "00", []api.Style{wrap(api.WrAnywhere)}, "00")
}

// P10.1: what each Kind is before a place, and after it.
func TestKinds(t *testing.T) {
	const after = "a_~+>|^"
	for _, x := range []struct {
		before string
		s      api.Style
		want   string
	}{
		{"a", api.Style{}, "0000001"}, {"漢", api.Style{}, "1000001"}, {"_", api.Style{}, "1000001"}, {"~", api.Style{}, "1000001"},
		{"+", api.Style{}, "1000001"}, {">", api.Style{}, "1000001"}, {"|", api.Style{}, "0000000"}, {"^", api.Style{}, "1000001"},
		{"+", white(api.WhBreakSpaces), "1111101"}, {">", white(api.WhBreakSpaces), "1111101"}, {"~", white(api.WhBreakSpaces), "1000001"},
		{"_", white(api.WhBreakSpaces), "1000001"}, {"a", white(api.WhBreakSpaces), "0000001"}, {"+", white(api.WhPreWrap), "1000001"},
		{"a", line(api.LnAnywhere), "1001101"}, {"+", line(api.LnAnywhere), "1001101"}, {"|", line(api.LnAnywhere), "0000000"}, {"^", line(api.LnAnywhere), "1001101"},
		{"a", wrap(api.WrAnywhere), "2002201"}, {"_", wrap(api.WrAnywhere), "1002201"}, {"|", wrap(api.WrAnywhere), "0000000"}, {"^", wrap(api.WrAnywhere), "1002201"},
		{"(", wrap(api.WrAnywhere), "2002202"}, {"(", api.Style{}, "0000000"},
	} {
		for i, kind := range []rune(after) {
			all(t, x.before+string(kind), x.s, "0"+x.want[i:i+1])
		}
	}
}

// P10.1: R counts for a text only: a letter, a mark, a space or a line end of another Kind is not one.
func TestNumbersOfOtherKinds(t *testing.T) {
	for kind := api.ChSpace; kind <= api.ChAtom; kind++ {
		for _, s := range allStyles() {
			for _, r := range []int32{'a', '漢', 0x301, ' ', '\n', 0x2028, '(', -1} {
				l := []api.Char{{R: '漢'}, {R: r, Kind: kind}, {R: '漢'}, {R: r, Kind: kind}, {R: r, Kind: kind}}
				other := slices.Clone(l)
				other[1].R, other[3].R, other[4].R = 0, 0, 0
				nodes := make([]int, len(l))
				if got, want := show(l, []api.Style{s}, nodes), show(other, []api.Style{s}, nodes); got != want {
					t.Fatalf("%v in %v: %s, want %s", l, s, got, want)
				}
			}
		}
	}
}

// P10.1: a text's own spaces and line ends have the classes of their R, and are of no other Kind.
func TestTextsOwnWhite(t *testing.T) {
	all(t, "a b", api.Style{}, "001")
	all(t, "a b", line(api.LnAnywhere), "011")
	all(t, "a  b", white(api.WhBreakSpaces), "0001")
	all(t, "a b", wrap(api.WrAnywhere), "021")
	all(t, "a\nb\r\nc\u2028d\u0085", api.Style{}, "001001010")
	all(t, "漢\n字", line(api.LnAnywhere), "011")
	all(t, "a\tb", api.Style{}, "001")
	all(t, "a\u200bb\u2060c\ufffcd", api.Style{}, "0010011")
}

// P10.1: White of the place's style.
func TestWhiteOfPlaces(t *testing.T) {
	for w, want := range []string{"00010011", "00000000", "00000000", "00010011", "00010011", "00010011", "00010011"} {
		all(t, "ab_c|漢字漢", white(uint8(w)), want)
		s := []api.Style{{White: api.WhNowrap, Wrap: api.WrAnywhere}, white(uint8(w))}
		mixed(t, "ab_c|漢字漢", "00000000", "01111111", s, want)
		mixed(t, "ab_c|漢字漢", "01010101", "11111111", s, want)
		mixed(t, "ab_c|漢字漢", "11111111", "00000000", s, "00000000")
	}
	s := []api.Style{{}, white(api.WhNowrap), white(api.WhPre)}
	mixed(t, "漢字漢字漢", "22222", "20102", s, "01010")
	mixed(t, "漢字漢字漢", "00000", "00120", s, "01001")
}

// P10.1: White of a kept space's, or tab's, own style, and of no other character's.
func TestWhiteOfCharacters(t *testing.T) {
	s := []api.Style{{}, white(api.WhBreakSpaces), white(api.WhPre), white(api.WhPreWrap), {White: 255}}
	for _, kept := range []string{"+", ">"} {
		mixed(t, kept+kept+"a", "101", "000", s, "011")
		mixed(t, kept+kept+"a", "010", "000", s, "001")
		mixed(t, kept+kept+"a", "111", "333", s, "011")
		mixed(t, kept+kept+"a", "111", "222", s, "000")
		mixed(t, kept+kept+"a", "222", "111", s, "001")
		mixed(t, kept+kept+"a", "333", "111", s, "001")
		mixed(t, kept+kept+"a", "444", "444", s, "001")
		mixed(t, kept+kept+")", "111", "000", s, "011")
		mixed(t, kept+kept+")", "000", "000", s, "000")
	}
	mixed(t, "a__~~^", "111111", "111111", s, "000001")
	mixed(t, "+|+|", "1111", "1111", s, "0000")
}

// P10.1: Word of the place's style holds letters together, and breaks nothing.
func TestWordOfPlaces(t *testing.T) {
	s := []api.Style{{}, word(api.WoBreakAll), word(api.WoKeepAll), word(3), {Word: api.WoKeepAll, Wrap: api.WrAnywhere}}
	mixed(t, "漢字漢字漢", "00000", "01234", s, "01012")
	mixed(t, "漢字漢字漢", "00000", "22222", s, "00000")
	mixed(t, "漢字漢字漢", "22222", "00000", s, "01111")
	mixed(t, "ab", "00", "11", s, "00")
	mixed(t, "ab", "11", "00", s, "01")
	mixed(t, "ab", "11", "22", s, "00")
	// Letters of all classes hold together, and what is no letter does not.
	mixed(t, "a漢1漢ぁ漢a", "0000000", "2222222", s, "0000000")
	mixed(t, "a漢1漢ぁ漢a", "0000000", "0000000", s, "0111111")
	mixed(t, "漢々漢", "000", "000", s, "001")
	mixed(t, "漢々漢", "000", "222", s, "000")
	mixed(t, "漢(漢)漢", "00000", "22222", s, "01001")
	mixed(t, "漢_字", "000", "222", s, "001")
	mixed(t, "a_b", "000", "222", s, "001")
	mixed(t, "漢+字~漢>字", "0000000", "2222222", s, "0010101")
	mixed(t, "漢^字", "000", "222", s, "011")
	mixed(t, "漢—漢$漢", "00000", "22222", s, "01110")
	mixed(t, "a\u200bb-c", "00000", "22222", s, "00101")
	mixed(t, "漢\u0301字", "000", "222", s, "001")
	mixed(t, "漢\u0301字", "000", "444", s, "001")
	mixed(t, "漢 字", "000", "222", s, "001")
}

// P10.1: Word of the characters' own styles makes letters ideographs, one by one.
func TestWordOfCharacters(t *testing.T) {
	s := []api.Style{{}, word(api.WoBreakAll), word(api.WoKeepAll), word(255)}
	mixed(t, "abc", "010", "000", s, "011")
	mixed(t, "abc", "100", "000", s, "010")
	mixed(t, "abc", "001", "000", s, "001")
	mixed(t, "abc", "232", "000", s, "000")
	mixed(t, "a1b2", "1111", "0000", s, "0111")
	mixed(t, "a1b2", "0000", "1111", s, "0000")
	mixed(t, "1,2$3%", "111111", "000000", s, "001100")
	mixed(t, "(a)b", "1111", "0000", s, "0001")
	mixed(t, "$a%", "010", "000", s, "000")
	mixed(t, "$a漢%", "0100", "0000", s, "0010")
}

// P10.1: Line of the place's style: anywhere, or not.
func TestLineOfPlaces(t *testing.T) {
	s := []api.Style{{}, line(api.LnLoose), line(api.LnStrict), line(api.LnAnywhere), line(4)}
	mixed(t, "aaaaaa", "000000", "301234", s, "000010")
	mixed(t, "aaaaaa", "333333", "301234", s, "000010")
	mixed(t, "漢ぁ々", "000", "000", s, "010")
	mixed(t, "漢ぁ々", "000", "111", s, "010")
	mixed(t, "漢ぁ々", "000", "222", s, "010")
	mixed(t, "漢ぁ々", "000", "333", s, "011")
	mixed(t, "漢ぁ々", "000", "444", s, "010")
	mixed(t, "漢_~+>^|漢", "00000000", "33333333", s, "00011100")
}

// P10.1: Line of the characters' own styles decides the classes, also of what is not beside the place.
func TestLineOfCharacters(t *testing.T) {
	s := []api.Style{{}, line(api.LnLoose), line(api.LnStrict), line(api.LnAnywhere), line(4)}
	mixed(t, "漢ぁ漢ぁ漢ぁ漢ぁ漢ぁ", "0001020304", "0000000000", s, "0111101111")
	mixed(t, "漢々漢々漢々漢々漢々", "0001020304", "0000000000", s, "0011101010")
	mixed(t, "漢ぁ", "20", "00", s, "01")
	mixed(t, "漢ぁ", "02", "11", s, "00")
	mixed(t, ")_々)_々)_々", "000010001", "000000000", s, "000000001")
	mixed(t, ")_ぁ)_ぁ)_ぁ", "002001000", "000000000", s, "000001001")
}

// P10.1: Wrap of the place's style only.
func TestWraps(t *testing.T) {
	s := []api.Style{{}, wrap(api.WrAnywhere), wrap(2), wrap(255)}
	mixed(t, "abcde", "00000", "10123", s, "00200")
	mixed(t, "abcde", "11111", "10123", s, "00200")
	mixed(t, "abcde", "00000", "11111", s, "02222")
	mixed(t, "a\u0301b\u0301\u0301_\u0301c|\u0301", "0000000000", "1111111111", s, "0020001200")
	mixed(t, "a(b)c,d", "0000000", "1111111", s, "0122122")
	mixed(t, "a漢b字", "0000", "1111", s, "0111")
	mixed(t, "a+>^", "0000", "1111", s, "0221")
	mixed(t, "(+", "00", "11", s, "02")
}

// P10.1: marks before a place, after it, around it, and as a part's first characters.
func TestMarks(t *testing.T) {
	all(t, "\u0301", line(api.LnAnywhere), "0")
	all(t, "\u0301\u0301a", api.Style{}, "000")
	all(t, "\u0301漢\u0301字\u0301", api.Style{}, "01010")
	all(t, "|\u0301漢|\u0301a", api.Style{}, "001000")
	all(t, "漢|\u0301漢", api.Style{}, "0001")
	all(t, "|\u0301a\u0301", line(api.LnAnywhere), "0010")
	all(t, "|\u0301a\u0301", wrap(api.WrAnywhere), "0020")
	all(t, "a\u0301\u0301漢\u0301字", api.Style{}, "000101")
	all(t, "(\u0301_漢", api.Style{}, "0000")
	all(t, "(\u0301_漢", wrap(api.WrAnywhere), "0002")
	all(t, "^\u0301a", api.Style{}, "001")
	all(t, "^\u0301\u0301", line(api.LnAnywhere), "000")
	all(t, "_\u0301漢", api.Style{}, "011")
	all(t, "_\u0301a", api.Style{}, "010")
	all(t, "_\u0301a", line(api.LnAnywhere), "001")
	all(t, "+\u0301", white(api.WhBreakSpaces), "01")
	all(t, "+\u0301", white(api.WhPreWrap), "01")
	all(t, "a\u0301b", word(api.WoBreakAll), "001")
	all(t, "漢\u0301\u0301字", word(api.WoKeepAll), "0001")
	all(t, "\u0001\u0001a\u0001", line(api.LnAnywhere), "0010")
	all(t, "漢\u302a\u3099", wrap(api.WrAnywhere), "000")
}

// P10.1, P10.4: parts between forced breaks.
func TestParts(t *testing.T) {
	all(t, "|", line(api.LnAnywhere), "0")
	all(t, "||||", line(api.LnAnywhere), "0000")
	all(t, "|漢字|", api.Style{}, "0010")
	all(t, "||漢字||漢字||", api.Style{}, "0001000100")
	all(t, "漢_|_字", api.Style{}, "00001")
	all(t, "漢字|ab|_c", line(api.LnAnywhere), "01001001")
	all(t, "(|漢字", api.Style{}, "0001")
	all(t, "(_|_漢字", api.Style{}, "000011")
	all(t, "—|—|—_—", api.Style{}, "0000000")
	all(t, "a|\u0301漢", api.Style{}, "0001")
	all(t, "\u200b|_)", api.Style{}, "0000")
	all(t, "\u200b_)", api.Style{}, "001")
	all(t, "a^|^b", wrap(api.WrAnywhere), "01001")
	all(t, "+|+", white(api.WhBreakSpaces), "000")
	// What rules the place after a forced break does not matter, and what the break's own style is.
	s := []api.Style{{}, line(api.LnAnywhere), white(api.WhPre), {White: api.WhBreakSpaces, Line: api.LnAnywhere, Wrap: api.WrAnywhere}}
	for _, rule := range "0123" {
		for _, node := range "0123" {
			n, r := string(node), string(rule)
			mixed(t, "漢|字漢", "0"+n+"00", "0"+r+r+"0", s, "0001")
			mixed(t, "|字漢|", n+"00"+n, r+r+"0"+r, s, "0010")
		}
	}
}

// P10.4: what comes after a forced break is as alone; text of the class of breaks is no forced break.
func TestAfterForced(t *testing.T) {
	for _, before := range []string{"", "a", "(", "(_", "—_", "$", "\u200b", "^", "\u0301", "漢+"} {
		for _, after := range []string{"", "漢", "_漢", "\u0301漢", "—_—", ")", "_)", "1", "^a", "a_b"} {
			for _, s := range []api.Style{{}, wrap(api.WrAnywhere), line(api.LnAnywhere), word(api.WoKeepAll)} {
				first, then := list(before), list(after)
				whole := slices.Concat(first, list("|"), then)
				styles := []api.Style{s}
				want := show(first, styles, make([]int, len(first))) + "0" + show(then, styles, make([]int, len(then)))
				if got := show(whole, styles, make([]int, len(whole))); got != want {
					t.Errorf("%q, then %q, in %v: %s, want %s", before, after, s, got, want)
				}
			}
		}
	}
	all(t, "(\u2028漢", line(api.LnAnywhere), "011")
	all(t, "漢\u2028字", wrap(api.WrAnywhere), "021")
}

// P10.3: lines are kept whole whatever else a style says.
func TestWhole(t *testing.T) {
	for _, s := range allStyles() {
		if s.White != api.WhNowrap && s.White != api.WhPre {
			continue
		}
		all(t, "a漢_字~+>b|^c\u0301(", s, "0000000000000")
		mixed(t, "+漢>字", "0000", "1111", []api.Style{white(api.WhBreakSpaces), s}, "0000")
	}
}

// P10.3: WrAnywhere adds to what is there.
func TestWrapAdds(t *testing.T) {
	for _, s := range allStyles() {
		l := list("a漢ぁ々_字~+>b|^c\u0301()1_\u0301")
		rules := make([]int, len(l))
		s.Wrap = api.WrNormal
		was := show(l, []api.Style{s}, rules)
		s.Wrap = api.WrAnywhere
		got := show(l, []api.Style{s}, rules)
		if strings.ReplaceAll(got, "2", "0") != was || len(was) != len(l) {
			t.Errorf("%v: %s, without WrAnywhere %s", s, got, was)
		}
	}
}

// P10.2: the classes of a text in each Line and each Word, of all classes of layer 4; White, Wrap and the rest do not count.
func TestClasses(t *testing.T) {
	numbers := numbersOfClasses(t)
	for n, r := range numbers {
		is := uint8(n)
		for _, s := range allStyles() {
			want := is
			switch {
			case is == api.ClCJ && s.Line == api.LnStrict:
				want = api.ClNS
			case is == api.ClCJ || is == api.ClNS && s.Line == api.LnLoose:
				want = api.ClID
			case s.Word == api.WoBreakAll && (is == api.ClAL || is == api.ClNU):
				want = api.ClID
			}
			s.Tab, s.Font, s.Size, s.HKind, s.Height = 3, -1, 77, 9, -5
			c := api.Char{R: r, Node: -7, At: -1, Len: 99}
			if got := chance.Class(c, s); got != want {
				t.Fatalf("%x, which is %s, in %v: %s, want %s", r, class.Name(is), s, class.Name(got), class.Name(want))
			}
		}
	}
}

// numbersOfClasses has a number of each class of layer 4.
func numbersOfClasses(t *testing.T) []int32 {
	t.Helper()
	l := slices.Repeat([]int32{-1}, int(api.ClCB)+1)
	found := 1
	for r := int32(0); r < 0x10000; r++ {
		if is := class.Of(r); l[is] < 0 && is != api.ClAL {
			l[is] = r
			found++
		}
	}
	l[api.ClAL] = 'a'
	if found != len(l) {
		t.Fatalf("%d classes", found)
	}
	return l
}

// P10.2: the words of the chapter, one by one.
func TestClassesByName(t *testing.T) {
	for _, x := range []struct {
		r    int32
		s    api.Style
		want uint8
	}{
		{'a', api.Style{}, api.ClAL}, {'a', word(api.WoBreakAll), api.ClID}, {'a', word(api.WoKeepAll), api.ClAL}, {'a', line(api.LnLoose), api.ClAL},
		{'1', api.Style{}, api.ClNU}, {'1', word(api.WoBreakAll), api.ClID}, {'1', word(api.WoKeepAll), api.ClNU}, {'1', word(3), api.ClNU},
		{'ぁ', api.Style{}, api.ClID}, {'ぁ', line(api.LnLoose), api.ClID}, {'ぁ', line(api.LnStrict), api.ClNS}, {'ぁ', line(api.LnAnywhere), api.ClID}, {'ぁ', line(4), api.ClID},
		{'々', api.Style{}, api.ClNS}, {'々', line(api.LnLoose), api.ClID}, {'々', line(api.LnStrict), api.ClNS}, {'々', line(api.LnAnywhere), api.ClNS}, {'々', line(255), api.ClNS},
		{'ぁ', api.Style{Line: api.LnStrict, Word: api.WoBreakAll}, api.ClNS}, {'々', api.Style{Word: api.WoBreakAll}, api.ClNS},
		{-1, api.Style{}, api.ClAL}, {-1, word(api.WoBreakAll), api.ClID}, {math.MaxInt32, api.Style{}, api.ClAL}, {math.MinInt32, word(api.WoBreakAll), api.ClID}, {0xd800, api.Style{}, api.ClAL},
		{'(', word(api.WoBreakAll), api.ClOP}, {'$', word(api.WoBreakAll), api.ClPR}, {0x301, word(api.WoBreakAll), api.ClCM}, {' ', word(api.WoBreakAll), api.ClSP}, {'\t', api.Style{}, api.ClBA}, {'\n', api.Style{}, api.ClLF},
	} {
		if got := chance.Class(api.Char{R: x.r}, x.s); got != x.want {
			t.Errorf("%x in %v: %s, want %s", x.r, x.s, class.Name(got), class.Name(x.want))
		}
	}
}

// P10.2: the classes of other Kinds, and of those that are none, whatever R and style are.
func TestClassesOfKinds(t *testing.T) {
	for kind := 1; kind < 256; kind++ {
		want := api.ClBK
		switch uint8(kind) {
		case api.ChSpace, api.ChHang, api.ChKeep, api.ChTab:
			want = api.ClSP
		case api.ChAtom:
			want = api.ClCB
		}
		for _, r := range []int32{'a', '1', 'ぁ', '々', 0x301, ' ', 0, -1} {
			for _, s := range ownStyles() {
				if got := chance.Class(api.Char{R: r, Kind: uint8(kind)}, s); got != want {
					t.Fatalf("%x of the Kind %d in %v: %s, want %s", r, kind, s, class.Name(got), class.Name(want))
				}
			}
		}
	}
}

// P10.2: which classes are letters, of a text and of nothing else.
func TestLetters(t *testing.T) {
	for n, r := range numbersOfClasses(t) {
		for kind := range 256 {
			is := kind == 0 && slices.Contains([]uint8{api.ClAL, api.ClNU, api.ClID, api.ClCJ, api.ClNS}, uint8(n))
			if got := chance.Letter(api.Char{R: r, Kind: uint8(kind), Node: -3, At: 1, Len: 2}); got != is {
				t.Fatalf("%x, which is %s, of the Kind %d: %v", r, class.Name(uint8(n)), kind, got)
			}
		}
	}
	for _, r := range []int32{-1, math.MaxInt32, math.MinInt32, 0xd800, 0x10ffff, 'Ω'} {
		if !chance.Letter(api.Char{R: r}) {
			t.Errorf("%x is no letter", r)
		}
	}
}

// P10.1, P10.2: classes and letters count for Chances as Class and Letter tell: of all pairs of classes, the places are those of layer 9 unless two letters hold together.
func TestClassesCount(t *testing.T) {
	numbers := numbersOfClasses(t)
	for _, s := range []api.Style{{}, word(api.WoBreakAll), word(api.WoKeepAll), line(api.LnLoose), line(api.LnStrict), {Word: api.WoKeepAll, Line: api.LnLoose}} {
		for _, a := range numbers {
			for _, b := range numbers {
				l := []api.Char{{R: a}, {R: b}, {R: a}}
				check(t, l, []api.Style{s}, []int{0, 0, 0})
			}
		}
	}
}
