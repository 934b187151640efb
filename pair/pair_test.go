package pair_test

import (
	"slices"
	"strconv"
	"strings"
	"testing"

	"stickful/api"
	"stickful/pair"
)

// classes are all of them, by the names that the chapter calls them.
var classes = map[string]uint8{
	"AL": api.ClAL, "BK": api.ClBK, "CR": api.ClCR, "LF": api.ClLF, "NL": api.ClNL, "SP": api.ClSP, "ZW": api.ClZW,
	"WJ": api.ClWJ, "GL": api.ClGL, "CM": api.ClCM, "BA": api.ClBA, "BB": api.ClBB, "B2": api.ClB2, "HY": api.ClHY,
	"OP": api.ClOP, "CL": api.ClCL, "QU": api.ClQU, "EX": api.ClEX, "IS": api.ClIS, "NS": api.ClNS, "CJ": api.ClCJ,
	"IN": api.ClIN, "NU": api.ClNU, "PR": api.ClPR, "PO": api.ClPO, "ID": api.ClID, "CB": api.ClCB,
}

// class reads the name of a class, or a number.
func class(name string) uint8 {
	if c, ok := classes[name]; ok {
		return c
	}
	n, err := strconv.ParseUint(name, 10, 8)
	if err != nil {
		panic(err)
	}
	return uint8(n)
}

// row reads classes with spaces between them.
func row(names string) []uint8 {
	var l []uint8
	for _, name := range strings.Fields(names) {
		l = append(l, class(name))
	}
	return l
}

// show writes what is said of the places of a row from the second one on: ÷ or ×, and the rule; ! where a line must end.
func show(l []uint8) string {
	breaks, rules, must := pair.Breaks(l), pair.Rules(l), pair.Must(l)
	if len(breaks) != len(l) || len(rules) != len(l) || len(must) != len(l) {
		return "not as many as characters"
	}
	if len(l) > 0 && (breaks[0] || rules[0] != 0 || must[0]) {
		return "something at the first place"
	}
	var said []string
	for i := 1; i < len(l); i++ {
		sign := "×"
		switch {
		case must[i] && breaks[i]:
			sign = "!÷"
		case must[i]:
			sign = "!×"
		case breaks[i]:
			sign = "÷"
		}
		said = append(said, sign+strconv.Itoa(int(rules[i])))
	}
	return strings.Join(said, " ")
}

// want expects that this is said of the row.
func want(t *testing.T, names, said string) {
	t.Helper()
	if got := show(row(names)); got != said {
		t.Errorf("%s: %s, want %s", names, got, said)
	}
}

// wantLast expects that this is said of the row's last place.
func wantLast(t *testing.T, names, said string) {
	t.Helper()
	got := strings.Fields(show(row(names)))
	if len(got) == 0 || got[len(got)-1] != said {
		t.Errorf("%s: %v, want %s at the end", names, got, said)
	}
}

// P9.1, P9.2: the chapter's examples, and the one of the whole.
func TestExamples(t *testing.T) {
	want(t, "AL AL SP AL", "×28 ×7 ÷18")
	want(t, "AL CM SP OP SP AL CL", "×9 ×7 ÷18 ×7 ×14 ×13")
	want(t, "ID ID CJ PO", "÷31 ×21 ÷31")
	want(t, "CR LF CM", "×5 !÷5")
	want(t, "ZW SP GL", "×7 ÷8")
	want(t, "HY GL", "÷31")
	want(t, "NU IS NU", "×13 ×25")
}

// P9.1, P9.2: no character, and one of each number.
func TestShortRows(t *testing.T) {
	for _, l := range [][]uint8{nil, {}, row("AL BK")[:0]} {
		if show(l) != "" {
			t.Errorf("%v: %s", l, show(l))
		}
	}
	for n := range 256 {
		if l := []uint8{uint8(n)}; show(l) != "" {
			t.Errorf("%v: %s", l, show(l))
		}
	}
}

// firsts are rows at whose last place this is said: of each rule, each of its cases, where no rule before it applies.
var firsts = []struct{ said, rows string }{
	{"!÷4", "BK AL, BK ID, AL BK AL, BK BK AL"},
	{"×5", "CR LF, AL CR LF, LF CR LF"},
	{"!÷5", "CR AL, LF AL, NL AL, CR ID, LF CB, NL IN, CR CR, LF LF, LF CR, NL LF"},
	{"×6", "AL BK, AL CR, AL LF, AL NL, ID BK, ID CR, ID LF, ID NL, CB BK, SP LF, ZW NL"},
	{"×7", "AL SP, AL ZW, ID SP, ID ZW, SP SP, SP ZW, CB SP, CB ZW"},
	{"÷8", "ZW AL, ZW SP AL, ZW SP SP AL, AL ZW AL, ZW ID, ZW SP ID"},
	{"×9", "AL CM, ID CM, AL CM CM, CB CM, OP CM, SP CM CM, CM CM, NU CM, PO CM, HY CM"},
	{"×11", "WJ AL, AL WJ, WJ ID, ID WJ, WJ CB, CB WJ, SP WJ, WJ WJ, OP SP WJ"},
	{"×12", "GL AL, AL GL, GL ID, ID GL, GL GL, GL CB, CB GL, GL SP GL GL, GL BA, GL HY, HY CM BB GL, QU GL, CL GL"},
	{"×13", "AL CL, AL EX, AL IS, ID CL, ID EX, ID IS, SP CL, SP EX, SP IS, CB CL, CB EX, CB IS"},
	{"×14", "OP AL, OP SP AL, OP ID, OP SP SP ID, OP CB, OP SP CB, OP OP, OP SP OP, OP SP GL"},
	{"×15", "QU OP, QU SP OP, QU SP SP OP, AL QU SP OP"},
	{"×16", "CL NS, CL SP NS, CL SP SP NS, CL CJ, CL SP CJ"},
	{"×17", "B2 B2, B2 SP B2, B2 SP SP B2"},
	{"÷18", "SP AL, AL SP AL, SP GL, SP QU, SP CB, SP NS, SP ID, SP SP AL, SP IN, QU SP QU, CL SP CL CM SP AL"},
	{"×19", "QU AL, AL QU, QU ID, ID QU, QU QU, QU CB, CB QU, QU NS, IN QU, CL QU"},
	{"÷20", "CB AL, AL CB, CB ID, ID CB, CB CB, CB NS, CB BA, CB HY, BB CB, CB IN"},
	{"×21", "AL BA, AL HY, AL NS, ID BA, ID HY, ID NS, BB AL, BB ID, BB IN, BB NU, BB BB, BB OP"},
	{"×22", "AL IN, ID IN, IN IN, NU IN, PO IN, HY IN, CL IN, EX IN"},
	{"×23", "AL NU, NU AL, PR ID, ID PO"},
	{"×24", "PR AL, PO AL, AL PR, AL PO"},
	{"×25", "CL PO, CL PR, NU PO, NU PR, PO OP, PO NU, PR OP, PR NU, HY NU, IS NU, NU NU"},
	{"×28", "AL AL, CM AL, 99 AL, AL 99"},
	{"×29", "IS AL, AL IS AL, IS 27"},
	{"÷31", "AL ID, ID AL, ID ID, AL OP, CL AL, EX AL, HY AL, BA AL, NS AL, IN AL, B2 AL, AL B2, AL BB, NU ID, ID NU, PO ID, ID PR, CL NU, CL OP, NU OP, IS PO, IS IS CM ID, HY PO, HY GL, BA GL, PR PO, PO PR, PO PO, PR PR, NS NS CM ID, EX NU, EX PO"},
}

// P9.1, P9.2: each rule where it is the first that applies.
func TestEachRule(t *testing.T) {
	for _, x := range firsts {
		for _, names := range strings.Split(x.rows, ", ") {
			wantLast(t, names, x.said)
		}
	}
}

// P9.1, P9.2: rules in their order: at each row's last place a later one than this applies, too.
func TestOrder(t *testing.T) {
	for _, x := range []struct{ said, rows string }{
		{"!÷4", "BK BK, BK CR, BK LF, BK NL, BK SP, BK ZW, BK WJ, BK GL, BK CL, BK QU, BK NS, BK IN"},
		{"×5", "CR LF"},
		{"!÷5", "CR BK, CR CR, LF LF, NL CR, CR SP, LF ZW, NL SP, CR WJ, LF GL, NL EX, CR QU, LF BA, NL IN"},
		{"×6", "ZW BK, ZW CR, ZW SP LF, ZW SP NL, SP BK, SP LF, CB NL, WJ LF, OP CR"},
		{"×7", "ZW SP, ZW ZW, ZW SP SP, ZW SP ZW, SP SP, SP ZW, CB SP, CB ZW"},
		{"÷8", "ZW WJ, ZW GL, ZW SP WJ, ZW CL, ZW SP EX, ZW IS, ZW QU, ZW SP QU, ZW BA, ZW HY, ZW NS, ZW IN, ZW PR, ZW CM"},
		{"×9", "CB CM, CB CM CM, ID CM, WJ CM, GL CM, OP CM, QU CM, BB CM"},
		{"×11", "SP WJ, CB WJ, WJ CB, OP SP WJ, BA WJ, HY WJ, WJ GL"},
		{"×12", "GL CB, CB GL, GL CL, OP GL, GL QU, QU GL, GL IN"},
		{"×13", "SP CL, SP EX, SP IS, CB CL, CB EX, CB IS, OP SP CL, QU CL, IS IS"},
		{"×14", "OP SP AL, OP CB, OP SP CB, OP QU, OP SP QU, OP NS, OP IN"},
		{"×15", "QU SP OP"},
		{"×16", "CL SP NS"},
		{"×17", "B2 SP B2"},
		{"÷18", "SP QU, QU SP AL, SP CB, SP BA, SP HY, SP NS, SP IN, QU SP QU, BB SP AL, AL SP NU, AL SP AL, PR SP ID"},
		{"×19", "QU CB, CB QU, BB QU, QU NS"},
		{"÷20", "CB BA, CB HY, CB NS, CB IN, BB CB"},
		{"×21", "BB IN, NU HY, BB NU"},
	} {
		for _, names := range strings.Split(x.rows, ", ") {
			wantLast(t, names, x.said)
		}
	}
}

// P9.1: marks at the first place, and after each class: after these they count as AL and do not cling.
func TestMarks(t *testing.T) {
	want(t, "CM", "")
	want(t, "CM AL", "×28")
	want(t, "CM ID", "÷31")
	want(t, "CM CM", "×9")
	want(t, "CM CM CM NU", "×9 ×9 ×23")
	want(t, "CM SP CM", "×7 ÷18")
	want(t, "BK CM", "!÷4")
	want(t, "CR CM", "!÷5")
	want(t, "LF CM", "!÷5")
	want(t, "NL CM", "!÷5")
	want(t, "SP CM", "÷18")
	want(t, "ZW CM", "÷8")
	want(t, "ZW SP CM", "×7 ÷8")
	want(t, "OP SP CM", "×7 ×14")
	want(t, "QU SP CM", "×7 ÷18")
	for name := range classes {
		switch name {
		case "BK", "CR", "LF", "NL", "SP", "ZW":
			wantLast(t, name+" CM CM", "×9")
			wantLast(t, name+" CM AL", "×28")
			wantLast(t, name+" CM NU", "×23")
			wantLast(t, name+" CM ID", "÷31")
			wantLast(t, name+" CM CM CM PO", "×24")
			wantLast(t, name+" CM SP AL", "÷18")
			wantLast(t, name+" CM BK", "×6")
		default:
			wantLast(t, name+" CM", "×9")
			wantLast(t, name+" CM CM", "×9")
		}
	}
}

// P9.1: what marks cling to counts through them, as a, as b and as o.
func TestMarksCountAsBefore(t *testing.T) {
	want(t, "ID CM PO", "×9 ×23")
	want(t, "ID CM CM ID", "×9 ×9 ÷31")
	want(t, "CB CM AL", "×9 ÷20")
	want(t, "GL CM CB", "×9 ×12")
	want(t, "WJ CM CB", "×9 ×11")
	want(t, "CJ CM AL", "×9 ÷31")
	want(t, "CL CM CJ", "×9 ×16")
	want(t, "OP CM SP ID", "×9 ×7 ×14")
	want(t, "QU CM CM SP OP", "×9 ×9 ×7 ×15")
	want(t, "B2 CM SP B2 CM", "×9 ×7 ×17 ×9")
	want(t, "HY CM GL", "×9 ÷31")
	want(t, "BA CM GL", "×9 ÷31")
	want(t, "BB CM ID", "×9 ×21")
	want(t, "IS CM AL", "×9 ×29")
	want(t, "SP CM GL", "÷18 ×12")
	want(t, "OP SP CM SP ID", "×7 ×14 ×7 ÷18")
	want(t, "ZW CM SP AL", "÷8 ×7 ÷18")
}

// P9.1: CJ counts as NS, and a number that is no class as AL, whichever place they have.
func TestCountAs(t *testing.T) {
	same := func(n uint8, other uint8) {
		for x := range 30 {
			x := uint8(x)
			for y := range 30 {
				y := uint8(y)
				for _, rows := range [][2][]uint8{
					{{n, x, y}, {other, x, y}}, {{x, n, y}, {x, other, y}}, {{x, y, n}, {x, y, other}},
					{{n, api.ClSP, x, y}, {other, api.ClSP, x, y}}, {{x, n, api.ClSP, y}, {x, other, api.ClSP, y}}, {{x, y, api.ClSP, n}, {x, y, api.ClSP, other}},
					{{n, n, x}, {other, other, x}}, {{n, x, n}, {other, x, other}}, {{n, api.ClCM, x}, {other, api.ClCM, x}},
				} {
					if got, want := show(rows[0]), show(rows[1]); got != want {
						t.Fatalf("%v: %s, but %v: %s", rows[0], got, rows[1], want)
					}
				}
			}
		}
	}
	same(api.ClCJ, api.ClNS)
	for n := int(api.ClCB) + 1; n < 256; n++ {
		same(uint8(n), api.ClAL)
	}
	for n := 27; n < 256; n++ {
		name := strconv.Itoa(n)
		want(t, name+" AL "+name+" NU PR "+name+" "+name, "×28 ×28 ×23 ×25 ×24 ×28")
		want(t, name+" CM SP "+name, "×9 ×7 ÷18")
	}
	want(t, "CJ CJ NS AL CJ", "×21 ×21 ÷31 ×21")
}

// P9.1: however many spaces are between o and b; and where nothing else is before b.
func TestSpaces(t *testing.T) {
	for n := range 40 {
		spaces := strings.Repeat(" SP", 1+n)
		wantLast(t, "OP"+spaces+" ID", "×14")
		wantLast(t, "QU"+spaces+" OP", "×15")
		wantLast(t, "CL"+spaces+" NS", "×16")
		wantLast(t, "B2"+spaces+" B2", "×17")
		wantLast(t, "ZW"+spaces+" ID", "÷8")
		wantLast(t, "ZW"+spaces+" WJ", "÷8")
		wantLast(t, "OP AL"+spaces+" ID", "÷18")
		wantLast(t, "ZW CM"+spaces+" CL", "×13")
		wantLast(t, spaces+" AL", "÷18")
		wantLast(t, spaces+" CM", "÷18")
		wantLast(t, spaces+" OP", "÷18")
		wantLast(t, spaces+" NS", "÷18")
		wantLast(t, spaces+" B2", "÷18")
		wantLast(t, spaces+" GL", "÷18")
		wantLast(t, spaces+" CL", "×13")
		wantLast(t, spaces+" WJ", "×11")
		wantLast(t, spaces+" SP", "×7")
		wantLast(t, spaces+" BK", "×6")
	}
	want(t, "OP SP BK SP ID", "×7 ×6 !÷4 ÷18")
	want(t, "B2 SP LF SP B2", "×7 ×6 !÷5 ÷18")
}

// P9.1, P9.2: CR LF is one line end, but not with anything between.
func TestCarriageAndLine(t *testing.T) {
	want(t, "CR LF", "×5")
	want(t, "CR LF AL", "×5 !÷5")
	want(t, "CR LF LF", "×5 !÷5")
	want(t, "CR CR LF", "!÷5 ×5")
	want(t, "CR LF CR LF", "×5 !÷5 ×5")
	want(t, "LF CR", "!÷5")
	want(t, "NL LF", "!÷5")
	want(t, "BK LF", "!÷4")
	want(t, "CR NL", "!÷5")
	want(t, "CR CM LF", "!÷5 ×6")
	want(t, "CR CM CM LF AL", "!÷5 ×9 ×6 !÷5")
	want(t, "CR SP LF", "!÷5 ×6")
	want(t, "CR SP SP LF AL", "!÷5 ×7 ×6 !÷5")
	want(t, "CR ZW LF", "!÷5 ×6")
}

// P9.2: a line must end after BK, CR, LF and NL, but for CR LF, and nowhere else.
func TestMust(t *testing.T) {
	for a := range 256 {
		for b := range 256 {
			l := []uint8{api.ClSP, uint8(a), uint8(b)}
			must := uint8(a) == api.ClBK || uint8(a) == api.ClCR && uint8(b) != api.ClLF || uint8(a) == api.ClLF || uint8(a) == api.ClNL
			if got := pair.Must(l); !slices.Equal(got, []bool{false, false, must}) {
				t.Fatalf("%v: %v", l, got)
			}
			if must && !pair.Breaks(l)[2] {
				t.Fatalf("%v: no line may end where one must", l)
			}
		}
	}
}

// P9.1, P9.2, R5: a row is not changed, nor what is after it in its memory, which does not count; answers are new memory.
func TestMemory(t *testing.T) {
	text := row("CR LF AL CM SP ZW SP WJ ID CJ PO 99 OP SP AL BK")
	for n := range text {
		for _, after := range []uint8{api.ClCM, api.ClLF, api.ClSP, 255} {
			whole := slices.Concat(text[:n], slices.Repeat([]uint8{after}, 5))
			before, said := slices.Clone(whole), show(text[:n:n])
			l := whole[:n]
			breaks, rules, must := pair.Breaks(l), pair.Rules(l), pair.Must(l)
			if !slices.Equal(whole, before) || show(l) != said {
				t.Fatalf("%v before %v: %s, want %s", l, after, show(l), said)
			}
			spoil(breaks, true)
			spoil(rules, 77)
			spoil(must, true)
			if !slices.Equal(whole, before) || show(l) != said {
				t.Fatalf("%v: %s after its answers were changed, want %s", l, show(l), said)
			}
		}
	}
}

// spoil writes into all of an answer, and of its spare capacity.
func spoil[T any](l []T, x T) {
	l = l[:cap(l)]
	for i := range l {
		l[i] = x
	}
}

// P9.1, P9.2, R5: an answer does not change with its row, nor with other answers.
func TestAnswersStay(t *testing.T) {
	l := row("CR LF AL SP ID")
	breaks, rules, must := pair.Breaks(l), pair.Rules(l), pair.Must(l)
	spoil(pair.Breaks(l), true)
	spoil(pair.Rules(l), 77)
	spoil(pair.Must(l), true)
	spoil(l, api.ClBK)
	show(l)
	if !slices.Equal(breaks, []bool{false, false, true, false, true}) || !slices.Equal(rules, []uint8{0, 5, 5, 7, 18}) || !slices.Equal(must, []bool{false, false, true, false, false}) {
		t.Error(breaks, rules, must)
	}
}

// P9.1, R1: long rows do not take long, whatever is in them many times.
func TestLongRows(t *testing.T) {
	const most = 1 << 20
	for _, x := range []struct {
		first, again, last string
		ends               bool
		rule               uint8
	}{
		{"OP", "SP", "ID", false, 14}, {"ZW", "SP", "ID", true, 8}, {"SP", "SP", "AL", true, 18}, {"SP", "SP", "CL", false, 13},
		{"ID", "CM", "PO", false, 23}, {"CM", "CM", "AL", false, 28}, {"CR", "CM", "ID", true, 31}, {"CB", "CM", "CM", false, 9},
	} {
		l := slices.Concat(row(x.first), slices.Repeat(row(x.again), most), row(x.last))
		breaks, rules := pair.Breaks(l), pair.Rules(l)
		if len(breaks) != len(l) || len(rules) != len(l) || breaks[most+1] != x.ends || rules[most+1] != x.rule {
			t.Errorf("%s, many %s, %s: %v %d", x.first, x.again, x.last, breaks[most+1], rules[most+1])
		}
	}
}
