package white_test

import (
	"math"
	"slices"
	"strings"
	"testing"

	"stickful/api"
	"stickful/utf"
	"stickful/white"
)

// whites are as many styles as there are values of White; each one's number is its White.
func whites() []api.Style {
	l := make([]api.Style, api.WhBreakSpaces+1)
	for n := range l {
		l[n].White = uint8(n)
	}
	return l
}

// piece is a text, and the White of its node.
type piece struct {
	white uint8
	text  string
}

// list has the characters of all pieces, each with a place of its own: "^" is an atom, "!" a break that a node makes.
func list(pieces ...piece) []api.Char {
	var l []api.Char
	for _, p := range pieces {
		for _, r := range p.text {
			c := api.Char{R: r, Node: int(p.white), At: len(l), Len: 100 - len(l)}
			switch r {
			case '^':
				c.R, c.Kind = 0xfffc, api.ChAtom
			case '!':
				c.R, c.Kind = 0, api.ChForced
			}
			l = append(l, c)
		}
	}
	return l
}

// signs are what show writes for a character of a Kind, with this R.
var signs = []struct {
	kind uint8
	r    int32
	sign rune
}{
	{api.ChSpace, 0x20, '_'},
	{api.ChHang, 0x20, '~'},
	{api.ChKeep, 0x20, '='},
	{api.ChTab, 0x09, '>'},
	{api.ChForced, 0x0a, '$'},
	{api.ChForced, 0, '!'},
	{api.ChAtom, 0xfffc, '^'},
}

// show writes a character for each one of l; "?" is one that should not be there.
func show(l []api.Char) string {
	var b strings.Builder
	for _, c := range l {
		sign := '?'
		if c.Kind == api.ChText && !slices.Contains(processed, c.R) {
			sign = c.R
		}
		for _, s := range signs {
			if c.Kind == s.kind && c.R == s.r {
				sign = s.sign
			}
		}
		b.WriteRune(sign)
	}
	return b.String()
}

// wantShown expects that of the pieces this is left.
func wantShown(t *testing.T, want string, pieces ...piece) {
	t.Helper()
	l, e := white.Collapse(list(pieces...), whites())
	if e != api.OK || show(l) != want {
		t.Errorf("%q: %q, %d, want %q", pieces, show(l), e, want)
	}
}

// wantPlaces expects that of the pieces the characters at these places are left.
func wantPlaces(t *testing.T, want []int, pieces ...piece) {
	t.Helper()
	whole := list(pieces...)
	l, e := white.Collapse(whole, whites())
	if e != api.OK || len(l) != len(want) {
		t.Errorf("%q: %v, %d, want those at %v", pieces, l, e, want)
		return
	}
	for i, at := range want {
		if l[i].Node != whole[at].Node || l[i].At != at || l[i].Len != whole[at].Len {
			t.Errorf("%q: at %d is %v, want %v", pieces, i, l[i], whole[at])
		}
	}
}

const (
	normal = api.WhNormal
	nowrap = api.WhNowrap
	pre    = api.WhPre
	wrap   = api.WhPreWrap
	lines  = api.WhPreLine
	spaces = api.WhBreakSpaces
)

// The Whites that collapse, those that are kept, those whose line ends are soft, and those whose line ends are not.
var (
	collapsing = []uint8{normal, nowrap, lines}
	kept       = []uint8{pre, wrap, spaces}
	softs      = []uint8{normal, nowrap}
	hards      = []uint8{pre, wrap, lines, spaces}
	all        = []uint8{normal, nowrap, pre, wrap, lines, spaces}
)

// P8.1, P8.2: the chapter's examples, and those of the whole.
func TestExamples(t *testing.T) {
	wantShown(t, "a_b_", piece{normal, "a  \tb "})
	wantShown(t, "a_b", piece{normal, "a \n \nb"})
	wantPlaces(t, []int{0, 2, 5}, piece{normal, "a \n \nb"})
	wantShown(t, "a$b", piece{lines, "a \n b"})
	wantShown(t, "a~>$", piece{wrap, "a \t\n"})
	wantShown(t, "漢字", piece{normal, "漢\n字"})
	wantShown(t, "a\u200bb", piece{normal, "a\u200b\nb"})
	wantShown(t, "a_=b", piece{normal, "a "}, piece{pre, " b"})
	wantShown(t, "a_b", piece{normal, "a \n b"})
	for _, s := range whites() {
		want := s.White == normal || s.White == nowrap || s.White == lines
		if white.Collapses(s) != want {
			t.Errorf("Collapses of White %d is not %v", s.White, want)
		}
	}
	l, _ := white.Collapse(list(piece{normal, "a \n \nb^!"}), whites())
	if s := white.Kept(l); s != "a b\ufffc\n" {
		t.Errorf("Kept is %q", s)
	}
}

// P8.1: the numbers that the words of the chapter have.
func TestNumbers(t *testing.T) {
	if api.ChText != 0 || api.ChSpace != 1 || api.ChHang != 2 || api.ChKeep != 3 || api.ChTab != 4 || api.ChForced != 5 || api.ChAtom != 6 {
		t.Error("the Kinds are not the chapter's")
	}
	if normal != 0 || nowrap != 1 || pre != 2 || wrap != 3 || lines != 4 || spaces != 5 {
		t.Error("the Whites are not the chapter's")
	}
}

// P8.1: nothing, with and without styles that are valid.
func TestNothing(t *testing.T) {
	for _, l := range [][]api.Char{nil, {}, list(piece{normal, "a"})[:0]} {
		for _, s := range [][]api.Style{nil, {}, whites(), {{White: 6}}, {{White: 255}, {Tab: -1}}} {
			if got, e := white.Collapse(l, s); len(got) != 0 || e != api.OK {
				t.Errorf("nothing becomes %v, %d", got, e)
			}
		}
		if s := white.Kept(l); s != "" {
			t.Errorf("Kept of nothing is %q", s)
		}
	}
}

// P8.1: one character, of each White.
func TestOneCharacter(t *testing.T) {
	for _, w := range all {
		space, tab, end := "_", "_", "_"
		switch {
		case w == wrap:
			space, tab = "~", ">"
		case slices.Contains(kept, w):
			space, tab = "=", ">"
		}
		if slices.Contains(hards, w) {
			end = "$"
		}
		for text, want := range map[string]string{" ": space, "\t": tab, "\n": end, "\r": end, "\r\n": end, "a": "a", "字": "字", "^": "^", "!": "!", "\u200b": "\u200b", "\u00a0": "\u00a0", "\u0085": "\u0085", "\u2028": "\u2028", "\u3000": "\u3000", "\v": "\v", "\f": "\f"} {
			wantShown(t, want, piece{w, text})
		}
	}
}

// P8.1: each Kind, at each place of a list.
func TestKinds(t *testing.T) {
	for at := range 5 {
		for kind := range 256 {
			l := list(piece{normal, "a\n b字"})
			l[at].Kind = uint8(kind)
			got, e := white.Collapse(l, whites())
			switch uint8(kind) {
			case api.ChText, api.ChForced, api.ChAtom:
				if e != api.OK || len(got) < 4 {
					t.Errorf("Kind %d at %d: %v, %d", kind, at, got, e)
				}
			default:
				if e != api.ErrArg || len(got) != 0 {
					t.Errorf("Kind %d at %d: %v, %d", kind, at, got, e)
				}
			}
		}
	}
}

// wantErrArg expects that l is not valid, whatever else is in it.
func wantErrArg(t *testing.T, l []api.Char, s []api.Style) {
	t.Helper()
	if got, e := white.Collapse(l, s); got != nil || e != api.ErrArg {
		t.Errorf("%v, %v: %v, %d", l, s, got, e)
	}
}

// P8.1: a Node that has no style, of a character of each Kind, at each place of a list.
func TestNodes(t *testing.T) {
	for at := range 5 {
		for _, n := range []int{-1, -2, -6, 6, 7, 1 << 20, 1 << 31, 1 << 32, 1<<32 + 1, -1 << 32, 1<<32 - 1, math.MaxInt, math.MinInt, math.MinInt + 1} {
			for _, kind := range []uint8{api.ChText, api.ChForced, api.ChAtom} {
				l := list(piece{normal, "a \r\nb"})
				l[at].Node, l[at].Kind = n, kind
				wantErrArg(t, l, whites())
			}
		}
	}
	for n := range 6 {
		wantErrArg(t, []api.Char{{Node: n}}, whites()[:n])
		if _, e := white.Collapse([]api.Char{{Node: n}}, whites()[:n+1]); e != api.OK {
			t.Errorf("the last node's character: %d", e)
		}
	}
	for _, l := range [][]api.Char{list(piece{normal, "a"}), list(piece{normal, " "}), list(piece{normal, "^"}), list(piece{normal, "!"})} {
		wantErrArg(t, l, nil)
		wantErrArg(t, l, []api.Style{})
	}
}

// P8.1: a White that does not exist is an error where a character has it, and nowhere else.
func TestWhites(t *testing.T) {
	for w := range 256 {
		for at := range 5 {
			for _, kind := range []uint8{api.ChText, api.ChForced, api.ChAtom} {
				l := list(piece{normal, "a \r\nb"})
				s := []api.Style{{}, {White: uint8(w)}}
				if _, e := white.Collapse(l, s); e != api.OK {
					t.Fatalf("White %d of a node without characters: %d", w, e)
				}
				l[at].Node, l[at].Kind = 1, kind
				if w > 5 {
					wantErrArg(t, l, s)
				} else if _, e := white.Collapse(l, s); e != api.OK {
					t.Errorf("White %d: %d", w, e)
				}
			}
		}
		if got := white.Collapses(api.Style{White: uint8(w)}); got != slices.Contains(collapsing, uint8(w)) {
			t.Errorf("Collapses of White %d is %v", w, got)
		}
	}
}

// P8.1, P8.2: nothing of a style counts but its White, and nothing of it need be valid.
func TestOtherPartsOfStyles(t *testing.T) {
	other := api.Style{Word: 200, Wrap: 200, Line: 200, Tab: -1, Font: math.MinInt, Size: -1, HKind: 200, Height: math.MaxInt64}
	s := whites()
	for n := range s {
		other.White = uint8(n)
		s[n] = other
		if white.Collapses(other) != white.Collapses(api.Style{White: uint8(n)}) {
			t.Errorf("Collapses of White %d", n)
		}
	}
	l := list(piece{normal, "a  "}, piece{wrap, " \t\r\n"}, piece{spaces, " "}, piece{lines, "\n  b \n"}, piece{nowrap, "字\n字"})
	want, _ := white.Collapse(l, whites())
	if got, e := white.Collapse(l, s); e != api.OK || !slices.Equal(got, want) {
		t.Errorf("%q, %d, want %q", show(got), e, show(want))
	}
}

// P8.1, step 1: a 0d directly before a 0a is removed, of whatever nodes both are; no other one is.
func TestLineEndsOfTwo(t *testing.T) {
	for _, one := range hards {
		for _, two := range hards {
			wantShown(t, "a$b", piece{one, "a\r"}, piece{two, "\nb"})
			wantPlaces(t, []int{0, 2, 3}, piece{one, "a\r"}, piece{two, "\nb"})
			wantShown(t, "a$$b", piece{one, "a\n"}, piece{two, "\rb"})
			wantShown(t, "a$$b", piece{one, "a\r"}, piece{two, "\rb"})
			wantShown(t, "a$$b", piece{one, "a\n"}, piece{two, "\nb"})
			wantShown(t, "$$", piece{one, "\r\r"}, piece{two, "\n"}) // only the one directly before it
			wantPlaces(t, []int{0, 2}, piece{one, "\r\r"}, piece{two, "\n"})
			wantShown(t, "$$$", piece{one, "\r\n\r"}, piece{two, "\n\n"})
			wantPlaces(t, []int{1, 3, 4}, piece{one, "\r\n\r"}, piece{two, "\n\n"})
		}
		for _, two := range softs { // the soft one, if it stays, stands beside nothing else
			wantShown(t, "a$b", piece{one, "a\r"}, piece{two, "\n"}, piece{one, "\nb"})
			wantShown(t, "a_b", piece{one, "a\r"}, piece{two, "\nb"})
			wantShown(t, "a$b", piece{two, "a\r"}, piece{one, "\nb"})
			wantShown(t, "a$b", piece{one, "a\n"}, piece{two, "\rb"})
		}
	}
	for _, w := range softs {
		wantShown(t, "a_b", piece{w, "a\r\nb"})
		wantPlaces(t, []int{0, 2, 3}, piece{w, "a\r\nb"})
		wantPlaces(t, []int{0, 1, 3}, piece{w, "a\n\rb"})
		wantPlaces(t, []int{0, 1, 4}, piece{w, "a\r\r\nb"})
	}
}

// P8.1, step 1: what is between a 0d and a 0a keeps them apart, whatever becomes of it.
func TestLineEndsThatAreApart(t *testing.T) {
	for _, w := range []uint8{normal, nowrap, lines} {
		wantShown(t, "$$", piece{pre, "\r"}, piece{w, " \t "}, piece{pre, "\n"})
		wantPlaces(t, []int{0, 4}, piece{pre, "\r"}, piece{w, " \t "}, piece{pre, "\n"})
		wantPlaces(t, []int{0}, piece{normal, "\r \n"})
	}
	wantShown(t, "$=$", piece{pre, "\r \n"})
	wantShown(t, "$!$^$", piece{pre, "\r!\n^\n"})
	for _, kind := range []uint8{api.ChForced, api.ChAtom} { // what is no text is no line end
		l := list(piece{pre, "\r\n"})
		l[1].Kind = kind
		if got, e := white.Collapse(l, whites()); e != api.OK || len(got) != 2 || got[1] != l[1] {
			t.Errorf("0d before a 0a of Kind %d: %v, %d", kind, got, e)
		}
		l = list(piece{pre, "\r\n"})
		l[0].Kind = kind
		if got, e := white.Collapse(l, whites()); e != api.OK || len(got) != 2 || got[0] != l[0] {
			t.Errorf("0d of Kind %d before a 0a: %v, %d", kind, got, e)
		}
	}
}

// P8.1, step 2: white that collapses is removed beside a line end of any node, on both sides of it.
func TestWhiteBesideLineEnds(t *testing.T) {
	for _, w := range collapsing {
		for _, end := range all {
			for _, text := range []string{"\n", "\r", "\r\n"} {
				want := "a$b"
				if slices.Contains(softs, end) {
					want = "a_b"
				}
				wantShown(t, want, piece{w, "a "}, piece{end, text}, piece{w, "b"})
				wantShown(t, want, piece{w, "a"}, piece{end, text}, piece{w, " b"})
				wantShown(t, want, piece{w, "a \t  "}, piece{end, text}, piece{w, "\t\tb"})
				for _, other := range collapsing { // white of several nodes
					wantShown(t, want, piece{w, "a "}, piece{other, "\t "}, piece{end, text}, piece{other, " "}, piece{w, " \tb"})
				}
			}
		}
		wantShown(t, "_a_b_", piece{w, "  a  b  "})
		wantShown(t, "_!_^_", piece{w, " \t! \t^ \t"})
	}
}

// P8.1, step 2: what is kept, or is no white, keeps white apart from a line end.
func TestWhiteApartFromLineEnds(t *testing.T) {
	for _, w := range collapsing {
		for _, between := range []struct {
			white      uint8
			text, want string
		}{{pre, " ", "="}, {pre, "\t", ">"}, {wrap, " ", "~"}, {spaces, "\t ", ">="}, {normal, "a", "a"}, {lines, "^", "^"}, {nowrap, "!", "!"}, {normal, "\u200b", "\u200b"}, {normal, "\u00a0", "\u00a0"}} {
			p := piece{between.white, between.text}
			wantShown(t, "a_"+between.want+"$"+between.want+"_b", piece{w, "a "}, p, piece{pre, "\n"}, p, piece{w, " b"})
			wantShown(t, "a_"+between.want+"$b", piece{w, "a "}, p, piece{w, "\t "}, piece{pre, "\n"}, piece{w, " b"})
			wantShown(t, "a$"+between.want+"_b", piece{w, "a "}, piece{pre, "\n"}, piece{w, " \t"}, p, piece{w, "\tb"})
		}
	}
	for _, w := range kept { // kept white stays where it is
		for _, end := range hards {
			sign := "="
			if w == wrap {
				sign = "~"
			}
			wantShown(t, "a"+sign+"$"+sign+">b", piece{w, "a "}, piece{end, "\n"}, piece{w, " \tb"})
		}
		wantShown(t, "_", piece{normal, "\n"})
		wantShown(t, ">_>", piece{w, "\t"}, piece{normal, " \n "}, piece{w, "\t"})
	}
}

// P8.1, step 2: what is no text is no line end, even if its R is that of one; and no white, even if its R is that of a space.
func TestWhatIsNoTextIsNoWhite(t *testing.T) {
	for _, r := range []int32{0x09, 0x0a, 0x0d, 0x20, 0x200b, 0x5b57, 'a', 0, -1} {
		for _, kind := range []uint8{api.ChForced, api.ChAtom} {
			for _, w := range all {
				l := list(piece{normal, "a \n"}, piece{w, "x"}, piece{normal, "\n b 字\n"}, piece{w, "x"}, piece{normal, "\n字 "}, piece{w, "x"}, piece{normal, " "})
				want := []int{0, 2, 3, 4, 6, 7, 8, 9, 10, 11, 12, 13, 14, 15}
				for _, at := range []int{3, 10, 14} {
					l[at].R, l[at].Kind = r, kind
				}
				got, e := white.Collapse(l, whites())
				if e != api.OK || len(got) != len(want) {
					t.Fatalf("R %x of Kind %d: %v, %d", r, kind, got, e)
				}
				for i, at := range want {
					if got[i].At != at || (at == 3 || at == 10 || at == 14) && got[i] != l[at] {
						t.Errorf("R %x of Kind %d: at %d is %v", r, kind, i, got[i])
					}
				}
			}
		}
	}
}

// P8.1, step 3: of several soft line ends the first one stays.
func TestSoftLineEnds(t *testing.T) {
	for _, one := range softs {
		for _, two := range softs {
			for _, text := range []string{"\n", "\n\n", "\r\r", "\n\r", "\n \n", "\n\t \r"} {
				wantShown(t, "a_b", piece{one, "a" + text}, piece{two, "b"})
				wantShown(t, "a_b", piece{one, "a" + text}, piece{two, text + "b"})
				wantPlaces(t, []int{0, 1, 1 + 2*len(text)}, piece{one, "a" + text}, piece{two, text + "b"})
				wantShown(t, "_", piece{one, text}, piece{two, text})
				wantPlaces(t, []int{0}, piece{one, text}, piece{two, text})
				wantShown(t, "^_!_^", piece{one, "^" + text + "!"}, piece{two, text + "^"})
			}
			wantShown(t, "_a_", piece{one, "\na\n"})
			wantShown(t, "a_b_c", piece{one, "a\nb"}, piece{two, "\nc"})
		}
		wantShown(t, "a=_=b", piece{pre, "a "}, piece{one, "\n\n"}, piece{pre, " b"}) // beside kept ones
		wantShown(t, "a>_~b", piece{pre, "a\t"}, piece{one, " \n "}, piece{wrap, " b"})
	}
}

// P8.1, step 3: none of the soft line ends beside one that is not soft stays.
func TestSoftBesideHard(t *testing.T) {
	for _, soft := range softs {
		for _, hard := range hards {
			for _, text := range []string{"\n", "\n\n\n", "\n \n", "\n\t"} {
				wantShown(t, "a$b", piece{soft, "a" + text}, piece{hard, "\n"}, piece{soft, "b"})
				wantShown(t, "a$b", piece{soft, "a"}, piece{hard, "\n"}, piece{soft, text + "b"})
				wantShown(t, "a$b", piece{soft, "a" + text}, piece{hard, "\n"}, piece{soft, text + "b"})
				wantShown(t, "a$$b", piece{hard, "a\n"}, piece{soft, text}, piece{hard, "\rb"})
				wantPlaces(t, []int{0, 1, 2 + len(text), 3 + len(text)}, piece{hard, "a\n"}, piece{soft, text}, piece{hard, "\rb"})
				wantShown(t, "$", piece{soft, text}, piece{hard, "\n"})
				wantShown(t, "$", piece{hard, "\n"}, piece{soft, text})
			}
			for _, between := range []piece{{pre, " "}, {spaces, " "}, {soft, "x"}, {soft, "^"}, {soft, "!"}} { // beside, but not directly
				sign := strings.ReplaceAll(between.text, " ", "=")
				wantShown(t, "a_"+sign+"$b", piece{soft, "a\n"}, between, piece{hard, "\nb"})
				wantShown(t, "a$"+sign+"_b", piece{hard, "a\n"}, between, piece{soft, "\nb"})
			}
		}
	}
}

// P8.1, step 3: a soft line end that stayed is removed beside a 200b, and between two wide characters.
func TestSoftThatLeavesNothing(t *testing.T) {
	for _, w := range softs {
		for _, text := range []string{"\n", "\r", "\r\n", "\n\n", " \n ", "\n \t\r\n"} {
			for _, end := range []string{"a", "字", "\u200b", "^", "!", ""} {
				p := []piece{{pre, "\u200b"}, {w, text}, {pre, end}}
				wantShown(t, "\u200b"+end, p...)
				slices.Reverse(p)
				wantShown(t, end+"\u200b", p...)
			}
			for _, wide := range []string{"\u1100\u115f", "字漢", "\u2e80\u303e", "\u3041\ua4cf", "\uac00\ud7a3", "\uf900\ufaff", "\ufe30\ufe4f", "！\uff60", "\uffe0\uffe6", "\U0001f300\U0001f64f", "\U0001f900\U0001f9ff", "\U00020000\U0003fffd", "\u302a\u309a", "\u3000\u3001"} {
				r := []rune(wide)
				one, two := string(r[0]), string(r[1])
				wantShown(t, wide, piece{pre, one}, piece{w, text}, piece{lines, two})
				wantShown(t, two+one+wide, piece{w, two + text + one + text + one + text + two})
				for _, other := range []string{"a", "^", "!", "", "\u00a0", "\uff61", "\u303f", "\u3040", "-"} {
					wantShown(t, one+"_"+other, piece{pre, one}, piece{w, text}, piece{pre, other})
					wantShown(t, other+"_"+one, piece{pre, other}, piece{w, text}, piece{pre, one})
				}
			}
		}
		wantShown(t, "字_=字_字", piece{w, "字\n"}, piece{pre, " "}, piece{w, "字 字"}) // kept white between, and no line end at all
		wantShown(t, "字=_字", piece{w, "字"}, piece{pre, " "}, piece{w, "\n字"})
		wantShown(t, "\u200b=_~\u200b", piece{w, "\u200b"}, piece{pre, " "}, piece{w, "\n"}, piece{wrap, " \u200b"})
	}
}

// P8.1, step 3: a 200b, or a wide number, that is no text counts for nothing.
func TestSoftBesideWhatIsNoText(t *testing.T) {
	for _, kind := range []uint8{api.ChForced, api.ChAtom} {
		for _, r := range []int32{0x200b, 0x5b57} {
			for _, at := range []int{0, 2} {
				l := list(piece{normal, "字\n字"})
				l[at].R, l[at].Kind = r, kind
				got, e := white.Collapse(l, whites())
				if e != api.OK || len(got) != 3 || got[1].Kind != api.ChSpace || got[1].R != 0x20 || got[at] != l[at] {
					t.Errorf("R %x of Kind %d at %d: %v, %d", r, kind, at, got, e)
				}
			}
		}
	}
}

// P8.1, step 4: all other line ends are forced breaks, however many.
func TestHardLineEnds(t *testing.T) {
	for _, w := range hards {
		wantShown(t, "$a$$b$c$", piece{w, "\na\n\nb\rc\r\n"})
		wantShown(t, "字$字\u200b$", piece{w, "字\n字\u200b\n"})
		wantShown(t, "$^$!$", piece{w, "\n^\r!\n"})
	}
}

// P8.1, steps 5 to 7: tabs, and runs of spaces, of one node and of several.
func TestSpaces(t *testing.T) {
	for _, one := range collapsing {
		for _, two := range collapsing {
			for _, text := range []string{" ", "\t", "  ", "\t\t", " \t", "\t ", " \t \t"} {
				wantShown(t, "a_b", piece{one, "a" + text}, piece{two, "b"})
				wantShown(t, "a_b", piece{one, "a" + text}, piece{two, text + "b"})
				wantPlaces(t, []int{0, 1, 1 + 2*len(text)}, piece{one, "a" + text}, piece{two, text + "b"})
				wantShown(t, "_", piece{one, text}, piece{two, text})
				for _, w := range kept {
					sign := "="
					if w == wrap {
						sign = "~"
					}
					wantShown(t, "_"+sign+"_", piece{one, text}, piece{w, " "}, piece{two, text})
					wantShown(t, "_>_", piece{one, text}, piece{w, "\t"}, piece{two, text})
					wantShown(t, sign+sign+">_"+sign, piece{w, "  \t"}, piece{one, text}, piece{two, text}, piece{w, " "})
				}
				wantShown(t, "_^_!_", piece{one, text + "^"}, piece{two, text}, piece{one, "!" + text})
			}
		}
	}
	wantShown(t, "==~~>>==>", piece{pre, "  "}, piece{wrap, "  \t\t"}, piece{spaces, "  \t"})
}

// P8.2: Kept of each Kind, and of each code point.
func TestKept(t *testing.T) {
	for kind := range 256 {
		for _, r := range []int32{'a', 0x20, 0x0a, 0x0d, 0x09, 0, 0x5b57, 0xfffc, -1, 0x110000, 0xd800} {
			want := utf.Encode([]int32{r})
			switch uint8(kind) {
			case api.ChForced:
				want = "\n"
			case api.ChAtom:
				want = "\xef\xbf\xbc"
			}
			c := api.Char{R: r, Node: -1, At: 7, Len: 1, Kind: uint8(kind)}
			if got := white.Kept([]api.Char{c}); got != want {
				t.Errorf("Kept of %x of Kind %d is % x, want % x", r, kind, got, want)
			}
			if got := white.Kept([]api.Char{{R: 'x'}, c, c, {R: 'y'}}); got != "x"+want+want+"y" {
				t.Errorf("Kept of %x of Kind %d between others is % x", r, kind, got)
			}
		}
	}
	for _, x := range []struct {
		from, to int32
		want     string
	}{
		{0, 0, "\x00"}, {0x7f, 0x7f, "\x7f"}, {0x80, 0x80, "\xc2\x80"}, {0x7ff, 0x7ff, "\xdf\xbf"}, {0x800, 0x800, "\xe0\xa0\x80"}, {0xd7ff, 0xd7ff, "\xed\x9f\xbf"},
		{0xd800, 0xdfff, "\xef\xbf\xbd"}, {0xe000, 0xe000, "\xee\x80\x80"}, {0xfffd, 0xfffd, "\xef\xbf\xbd"}, {0xffff, 0xffff, "\xef\xbf\xbf"}, {0x10000, 0x10000, "\xf0\x90\x80\x80"},
		{0x10ffff, 0x10ffff, "\xf4\x8f\xbf\xbf"}, {0x110000, 0x110100, "\xef\xbf\xbd"}, {-256, -1, "\xef\xbf\xbd"}, {math.MinInt32, math.MinInt32, "\xef\xbf\xbd"}, {math.MaxInt32 - 1, math.MaxInt32 - 1, "\xef\xbf\xbd"},
	} {
		for r := x.from; r <= x.to; r++ {
			if got := white.Kept([]api.Char{{R: r}}); got != x.want {
				t.Errorf("Kept of %x is % x", r, got)
			}
		}
	}
	var l []api.Char
	var numbers []int32
	for r := int32(-5); r < 0x110010; r++ {
		l, numbers = append(l, api.Char{R: r, Kind: api.ChText}), append(numbers, r)
	}
	if white.Kept(l) != utf.Encode(numbers) {
		t.Error("Kept of all code points is not their bytes")
	}
}

// R5: neither call changes its list, or what is behind it.
func TestListsAreNotChanged(t *testing.T) {
	whole := list(piece{normal, "a \t\r\n\n b"}, piece{pre, " \t\r\n "}, piece{wrap, "\r \n"}, piece{lines, " \n字\n"}, piece{normal, "\n  \u200b\n"}, piece{normal, "behind \n"})
	s := append(whites(), api.Style{White: 9})
	wantList, wantStyles := slices.Clone(whole), slices.Clone(s)
	for n := range len(whole) - 8 {
		got, e := white.Collapse(whole[:n], s[:6])
		white.Kept(whole[:n])
		if e != api.OK || !slices.Equal(whole, wantList) || !slices.Equal(s, wantStyles) {
			t.Fatalf("%d: the list became %v", n, whole)
		}
		fill(got, api.Char{R: 'z', Kind: 9})
		if !slices.Equal(whole, wantList) {
			t.Fatalf("%d: the list became %v with the answer", n, whole)
		}
	}
}

// R4, R5: an answer does not change with the list, nor with another answer, and no call depends on one before it.
func TestAnswersAreNotKept(t *testing.T) {
	for _, text := range []string{"ab", "a \t\n b  c", "字\n字", "", " ", "^!^"} {
		l, s := list(piece{wrap, text}, piece{normal, text}), whites()
		one, e := white.Collapse(l, s)
		want := slices.Clone(one)
		two, f := white.Collapse(l, s)
		fill(two, api.Char{R: 'z', Kind: 9})
		clear(l)
		clear(s)
		if e != api.OK || f != api.OK || !slices.Equal(one, want) {
			t.Errorf("%q: the answer became %v, want %v", text, one, want)
		}
		if again, _ := white.Collapse(list(piece{wrap, text}, piece{normal, text}), whites()); !slices.Equal(again, want) {
			t.Errorf("%q: another call is %v, want %v", text, again, want)
		}
	}
}

// fill sets all of l, and what is behind it in its memory.
func fill[E any](l []E, e E) {
	l = l[:cap(l)]
	for i := range l {
		l[i] = e
	}
}
