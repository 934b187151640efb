package chance_test

import (
	"math"
	"slices"
	"testing"

	"stickful/api"
	"stickful/chance"
)

// wrong expects ErrArg, and nothing else.
func wrong(t *testing.T, l []api.Char, s []api.Style, rules []int) {
	t.Helper()
	if got, e := chance.Chances(l, s, rules); e != api.ErrArg || got != nil {
		t.Errorf("%v, %v, %v: %v, %d", l, s, rules, got, e)
	}
}

// right expects that there is something at each place.
func right(t *testing.T, l []api.Char, s []api.Style, rules []int) {
	t.Helper()
	if got, e := chance.Chances(l, s, rules); e != api.OK || len(got) != len(l) {
		t.Errorf("%v, %v, %v: %v, %d", l, s, rules, got, e)
	}
}

// P10.1: as many numbers of nodes as characters, none too few, none too many.
func TestHowManyRules(t *testing.T) {
	s := []api.Style{{}, {}}
	for n := range 6 {
		for m := range 9 {
			l, rules := list("a_b|c")[:n], make([]int, m)
			if n == m {
				right(t, l, s, rules)
			} else {
				wrong(t, l, s, rules)
			}
		}
	}
	wrong(t, list("a"), s, nil)
	wrong(t, nil, s, []int{0})
	wrong(t, nil, nil, []int{0})
	wrong(t, list("a"), s, []int{0, 0}[:0])
	right(t, list("a"), s, []int{0, 9}[:1])
}

// none are numbers of nodes that are not among n.
func none(n int) []int {
	return []int{-1, n, n + 1, math.MinInt, math.MaxInt, -1 << 32, 1 << 32, math.MinInt32, math.MaxInt32}
}

// P10.1: each character has a style, wherever it is, and of whatever Kind.
func TestNodesOfCharacters(t *testing.T) {
	for n := 1; n < 4; n++ {
		s, rules := make([]api.Style, n), make([]int, 7)
		for i := range 7 {
			l := list("a_~+>|^")
			l[i].Node = n - 1
			right(t, l, s, rules)
			for _, node := range none(n) {
				l[i].Node = node
				wrong(t, l, s, rules)
			}
		}
	}
	for _, node := range none(1) {
		wrong(t, []api.Char{{Node: node}}, []api.Style{{}}, []int{0})
	}
}

// P10.1: each place from 1 on has a style, also where it does not matter; what is passed for the place 0 is not looked at.
func TestNodesOfPlaces(t *testing.T) {
	l := list("|a_~+>|^")
	for n := 1; n < 4; n++ {
		s := make([]api.Style, n)
		for i := range l {
			rules := make([]int, len(l))
			rules[i] = n - 1
			right(t, l, s, rules)
			for _, node := range none(n) {
				rules[i] = node
				if i > 0 {
					wrong(t, l, s, rules)
					continue
				}
				right(t, l, s, rules)
				if got, want := show(l, s, rules), show(l, s, make([]int, len(l))); got != want {
					t.Errorf("%s, with %d for the place 0 %s", want, node, got)
				}
			}
		}
	}
	for _, node := range none(1) {
		wrong(t, list("ab"), []api.Style{{}}, []int{0, node})
	}
}

// P10.1: a Kind above ChAtom, wherever it is.
func TestWrongKinds(t *testing.T) {
	s := []api.Style{{}}
	for kind := range 256 {
		for i := range 3 {
			l := list("a|b")
			l[i].Kind = uint8(kind)
			if kind <= int(api.ChAtom) {
				right(t, l, s, make([]int, 3))
			} else {
				wrong(t, l, s, make([]int, 3))
			}
		}
		if kind > int(api.ChAtom) {
			wrong(t, []api.Char{{Kind: uint8(kind)}}, s, []int{0})
		}
	}
}

// P10.1: without styles only a list of nothing is right.
func TestNoStyles(t *testing.T) {
	for _, s := range [][]api.Style{nil, {}, make([]api.Style, 3)[:0]} {
		wrong(t, list("a"), s, []int{0})
		wrong(t, list("|"), s, []int{-1})
		wrong(t, list("a_b"), s, []int{0, 0, 0})
		right(t, nil, s, nil)
	}
}

// P10.1: styles need not be valid, nor a character's numbers be those of a text.
func TestAnyNumbers(t *testing.T) {
	odd := api.Style{White: 255, Word: 255, Wrap: 255, Line: 255, Tab: -9, Font: math.MinInt, Size: math.MaxInt64, HKind: 255, Height: math.MinInt64}
	l := list("a_漢ぁ々b|字")
	for i := range l {
		l[i].At, l[i].Len = math.MinInt, math.MaxInt
	}
	if got := show(l, []api.Style{odd}, make([]int, len(l))); got != "00110100" {
		t.Error(got)
	}
	check(t, []api.Char{{R: -1}, {R: math.MaxInt32}, {R: math.MinInt32}, {R: 0xd800}, {R: 0x110000, Kind: api.ChKeep}, {R: -1}}, []api.Style{{}}, make([]int, 6))
}

// R5: arguments are not changed, nor what is after them in their memory, which does not count.
func TestMemory(t *testing.T) {
	text := list("漢_字+b\u0301|ぁ^々>a")
	for n := range len(text) + 1 {
		for _, after := range []api.Char{{R: 0x301}, {Kind: api.ChForced}, {Kind: api.ChSpace}, {Kind: 99, Node: -1}} {
			s := []api.Style{{Wrap: api.WrAnywhere}, {White: 99}}
			l, rules := append(slices.Clone(text[:n]), after, after), append(make([]int, n), -5, -6)
			want := show(text[:n:n], s[:1:1], make([]int, n))
			wasL, wasS, wasRules := slices.Clone(l), slices.Clone(s), slices.Clone(rules)
			got, e := chance.Chances(l[:n], s[:1], rules[:n])
			if e != api.OK || show(l[:n], s[:1], rules[:n]) != want {
				t.Fatalf("%d of %v: %v, %d, want %s", n, l, got, e, want)
			}
			spoil(got, 77)
			if !slices.Equal(l, wasL) || !slices.Equal(s, wasS) || !slices.Equal(rules, wasRules) {
				t.Fatalf("%v, %v, %v become %v, %v, %v", wasL, wasS, wasRules, l, s, rules)
			}
			if again := show(l[:n], s[:1], rules[:n]); again != want {
				t.Fatalf("%s after its answer was changed, want %s", again, want)
			}
		}
	}
}

// spoil writes into all of an answer, and of its spare capacity.
func spoil[T any](l []T, x T) {
	l = l[:cap(l)]
	for i := range l {
		l[i] = x
	}
}

// R5: an answer does not change with its arguments, nor with other answers; and what was wrong before does not count.
func TestAnswersStay(t *testing.T) {
	l, s, rules := list("漢_字b|ぁa"), []api.Style{{Wrap: api.WrAnywhere}}, make([]int, 7)
	got, _ := chance.Chances(l, s, rules)
	other, _ := chance.Chances(l, s, rules)
	spoil(other, 77)
	for i := range l {
		l[i].Kind = api.ChForced
	}
	s[0].White = api.WhPre
	spoil(rules, -1)
	wrong(t, l, s, rules)
	if !slices.Equal(got, []uint8{0, 0, 1, 1, 0, 0, 1}) {
		t.Error(got)
	}
}

// P10.1, R1: long lists do not take long, whatever is in them many times.
func TestLongLists(t *testing.T) {
	const most = 1 << 20
	for _, x := range []struct {
		first, again, last string
		is                 uint8
	}{
		{"(", "_", "漢", 0}, {"_", "_", "漢", 1}, {"|", "|", "a", 0}, {"a", "|", "|", 0}, {"漢", "\u0301", "字", 1},
		{"^", "^", "^", 1}, {"a", "b", "c", 0}, {"\u200b", ">", "a", 1}, {"—", "~", "—", 0},
	} {
		l := slices.Concat(list(x.first), slices.Repeat(list(x.again), most), list(x.last))
		got, e := chance.Chances(l, []api.Style{{}}, make([]int, len(l)))
		if e != api.OK || len(got) != len(l) || got[most+1] != x.is {
			t.Errorf("%q, many %q, %q: %d, %d", x.first, x.again, x.last, len(got), e)
		}
	}
}
