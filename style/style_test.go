package style_test

import (
	"math"
	"math/rand/v2"
	"testing"

	"stickful/api"
	"stickful/style"
)

// field is one of a style's fields, as the chapter has it: the bit that declares it, and the greatest value that is valid (0 is the least).
type field struct {
	name string
	bit  uint16
	most int64
	set  func(s *api.Style, n int64)
	get  func(s api.Style) int64
}

func fields() []field {
	return []field{
		{"White", 1, 5, func(s *api.Style, n int64) { s.White = uint8(n) }, func(s api.Style) int64 { return int64(s.White) }},
		{"Word", 2, 2, func(s *api.Style, n int64) { s.Word = uint8(n) }, func(s api.Style) int64 { return int64(s.Word) }},
		{"Wrap", 4, 1, func(s *api.Style, n int64) { s.Wrap = uint8(n) }, func(s api.Style) int64 { return int64(s.Wrap) }},
		{"Line", 8, 3, func(s *api.Style, n int64) { s.Line = uint8(n) }, func(s api.Style) int64 { return int64(s.Line) }},
		{"Tab", 16, 64, func(s *api.Style, n int64) { s.Tab = int(n) }, func(s api.Style) int64 { return int64(s.Tab) }},
		{"Font", 32, 63, func(s *api.Style, n int64) { s.Font = int(n) }, func(s api.Style) int64 { return int64(s.Font) }},
		{"Size", 64, 1 << 30, func(s *api.Style, n int64) { s.Size = n }, func(s api.Style) int64 { return s.Size }},
		{"HKind", 128, 2, func(s *api.Style, n int64) { s.HKind = uint8(n) }, func(s api.Style) int64 { return int64(s.HKind) }},
		{"Height", 128, 1 << 30, func(s *api.Style, n int64) { s.Height = n }, func(s api.Style) int64 { return s.Height }},
	}
}

// with is s with n in the field.
func (f field) with(s api.Style, n int64) api.Style {
	f.set(&s, n)
	return s
}

// small reports whether the field is a byte.
func (f field) small() bool { return f.most < 16 }

// rights are valid values: both ends, and some between.
func (f field) rights() []int64 {
	if !f.small() {
		return []int64{0, 1, 2, 7, 8, f.most / 2, f.most - 1, f.most}
	}
	var l []int64
	for n := range f.most + 1 {
		l = append(l, n)
	}
	return l
}

// wrongs are the values beside both ends, the extreme ones, and some whose lower words would be valid.
func (f field) wrongs() []int64 {
	if !f.small() {
		return []int64{-1, -2, -f.most, f.most + 1, f.most + 2, 1 << 31, 1 << 32, 1<<32 + 1, -1 << 31, -1 << 32, 1<<32 - 1, 1 << 62, math.MaxInt64, math.MaxInt64 - 1, math.MinInt64, math.MinInt64 + 1}
	}
	var l []int64
	for n := f.most + 1; n <= 255; n++ {
		l = append(l, n)
	}
	return l
}

// low and high are valid styles that differ from each other in each field; those of high are the greatest ones.
func low() api.Style {
	return api.Style{White: 1, Word: 1, Wrap: 0, Line: 1, Tab: 3, Font: 5, Size: 640, HKind: 1, Height: 96}
}

func high() api.Style {
	return api.Style{White: 5, Word: 2, Wrap: 1, Line: 3, Tab: 64, Font: 63, Size: 1 << 30, HKind: 2, Height: 1 << 30}
}

// valids are styles, each of them valid.
func valids() []api.Style { return []api.Style{{}, low(), high(), {Tab: 8, Size: 1024}} }

// decl declares the parts of set, with the values that s has for them.
func decl(set uint16, s api.Style) api.Decl {
	d := api.Decl{Set: set}
	for _, f := range fields() {
		if set&f.bit != 0 {
			f.set(&d.Style, f.get(s))
		}
	}
	return d
}

// mixed is s, with the values of d for the parts of set.
func mixed(s api.Style, set uint16, d api.Style) api.Style {
	for _, f := range fields() {
		if set&f.bit != 0 {
			f.set(&s, f.get(d))
		}
	}
	return s
}

// wrongStyles are styles of which one field is not valid.
func wrongStyles() []api.Style {
	var l []api.Style
	for _, f := range fields() {
		for _, n := range f.wrongs() {
			l = append(l, f.with(api.Style{}, n), f.with(high(), n))
		}
	}
	return l
}

// wrongDecls are declarations that are not valid for one reason each.
func wrongDecls() []api.Decl {
	var l []api.Decl
	for _, f := range fields() {
		for _, n := range f.wrongs() { // in a part that is declared, and in one that is not
			l = append(l, decl(f.bit, f.with(api.Style{}, n)), decl(255, f.with(high(), n)), api.Decl{Style: f.with(api.Style{}, n)})
		}
		for _, n := range f.rights()[1:] {
			l = append(l, api.Decl{Style: f.with(api.Style{}, n)}, api.Decl{Set: 255 &^ f.bit, Style: f.with(api.Style{}, n)})
		}
	}
	for bit := 8; bit < 16; bit++ {
		l = append(l, api.Decl{Set: 1 << bit}, api.Decl{Set: 1<<bit | 255, Style: high()})
	}
	return l
}

// source draws the same numbers in each run.
func source() *rand.Rand { return rand.New(rand.NewPCG(6, 255)) }

// drawnStyle is valid, and of few values, so that equal ones are frequent.
func drawnStyle(r *rand.Rand) api.Style {
	var s api.Style
	for _, f := range fields() {
		l := f.rights()
		f.set(&s, l[r.IntN(len(l))])
	}
	return s
}

// drawnDecl is valid.
func drawnDecl(r *rand.Rand) api.Decl {
	return decl(uint16(r.IntN(256)&r.IntN(256)), drawnStyle(r))
}

func wantErrno(t *testing.T, what string, got, want api.Errno) {
	t.Helper()
	if got != want {
		t.Errorf("%s is %d, want %d", what, got, want)
	}
}

// P6.1, P6.2: the chapter's examples.
func TestExamples(t *testing.T) {
	if s, e := style.Resolve(style.First(), api.Decl{Set: 1, Style: api.Style{White: 2}}); s != (api.Style{White: 2, Tab: 8, Size: 1024}) || e != api.OK {
		t.Error(s, e)
	}
	if s, e := style.Resolve(style.First(), api.Decl{Set: 128, Style: api.Style{HKind: 1, Height: 96}}); s != (api.Style{Tab: 8, Size: 1024, HKind: 1, Height: 96}) || e != api.OK {
		t.Error(s, e)
	}
	wantErrno(t, "a Word that is not declared", style.CheckDecl(api.Decl{Set: 1, Style: api.Style{Word: 1}}), api.ErrStyle)
	wantErrno(t, "the Set 256", style.CheckDecl(api.Decl{Set: 256}), api.ErrStyle)
	wantErrno(t, "the Tab 65", style.Check(api.Style{Tab: 65}), api.ErrStyle)
	if d, e := style.Merge(api.Decl{Set: 5, Style: api.Style{White: 1, Wrap: 1}}, api.Decl{Set: 1, Style: api.Style{White: 4}}); d != (api.Decl{Set: 5, Style: api.Style{White: 4, Wrap: 1}}) || e != api.OK {
		t.Error(d, e)
	}
}

// P6.1
func TestFirst(t *testing.T) {
	for range 2 {
		if s := style.First(); s != (api.Style{White: 0, Word: 0, Wrap: 0, Line: 0, Tab: 8, Font: 0, Size: 1024, HKind: 0, Height: 0}) {
			t.Error(s)
		}
	}
	wantErrno(t, "the first style", style.Check(style.First()), api.OK)
}

// P6.1: each field alone, beside fields that are zero, and beside others.
func TestCheckFields(t *testing.T) {
	for _, f := range fields() {
		for _, s := range valids() {
			for _, n := range f.rights() {
				wantErrno(t, f.name, style.Check(f.with(s, n)), api.OK)
			}
			for _, n := range f.wrongs() {
				wantErrno(t, f.name, style.Check(f.with(s, n)), api.ErrStyle)
			}
		}
	}
}

// P6.1: HKind and Height are valid whatever the other one is; the fields of all other pairs, too.
func TestCheckPairs(t *testing.T) {
	for i, f := range fields() {
		for _, g := range fields()[:i] {
			for _, n := range []int64{0, 1, f.most, f.most + 1} {
				for _, m := range []int64{0, 1, g.most, g.most + 1} {
					want := api.OK
					if n > f.most || m > g.most {
						want = api.ErrStyle
					}
					s := g.with(f.with(api.Style{}, n), m)
					wantErrno(t, f.name+" and "+g.name, style.Check(s), want)
					wantErrno(t, f.name+" and "+g.name+", declared", style.CheckDecl(api.Decl{Set: f.bit | g.bit, Style: s}), want)
				}
			}
		}
	}
}

// P6.1: all numbers that Set can be.
func TestCheckDeclSets(t *testing.T) {
	for set := range 1 << 16 {
		for _, s := range valids() {
			want := api.OK
			if set > 255 || decl(uint16(set), s).Style != s {
				want = api.ErrStyle
			}
			if got := style.CheckDecl(api.Decl{Set: uint16(set), Style: s}); got != want {
				t.Fatalf("CheckDecl of %x with %v is %d, want %d", set, s, got, want)
			}
		}
	}
}

// P6.1: each field, declared and not, in each set of parts.
func TestCheckDeclFields(t *testing.T) {
	for _, f := range fields() {
		for set := range uint16(256) {
			for _, n := range f.rights() {
				want := api.OK
				if n != 0 && set&f.bit == 0 {
					want = api.ErrStyle
				}
				wantErrno(t, f.name, style.CheckDecl(api.Decl{Set: set, Style: f.with(api.Style{}, n)}), want)
				wantErrno(t, f.name+" beside others", style.CheckDecl(api.Decl{Set: set, Style: f.with(decl(set, low()).Style, n)}), want)
			}
			for _, n := range f.wrongs() {
				wantErrno(t, f.name, style.CheckDecl(api.Decl{Set: set, Style: f.with(api.Style{}, n)}), api.ErrStyle)
				wantErrno(t, f.name+" beside others", style.CheckDecl(api.Decl{Set: set, Style: f.with(decl(set, high()).Style, n)}), api.ErrStyle)
			}
		}
	}
}

// P6.2: each set of parts; what is declared may be zero, too.
func TestResolve(t *testing.T) {
	for set := range uint16(256) {
		for _, s := range valids() {
			for _, x := range valids() {
				d := decl(set, x)
				if got, e := style.Resolve(s, d); got != mixed(s, set, x) || e != api.OK {
					t.Errorf("Resolve(%v, %v) is %v, %d", s, d, got, e)
				}
			}
		}
	}
}

// P6.2: each part declared by one, by the other, by both, by none.
func TestMerge(t *testing.T) {
	for a := range uint16(256) {
		for b := range uint16(256) {
			for _, x := range valids()[:3] {
				for _, y := range valids()[:3] {
					da, db := decl(a, x), decl(b, y)
					want := api.Decl{Set: a | b, Style: mixed(da.Style, b, y)}
					if got, e := style.Merge(da, db); got != want || e != api.OK {
						t.Fatalf("Merge(%v, %v) is %v, %d", da, db, got, e)
					}
				}
			}
		}
	}
}

// P6.2: ErrStyle for either side, also where the other side declares what is not valid.
func TestResolveErrors(t *testing.T) {
	for _, s := range wrongStyles() {
		for _, d := range []api.Decl{{}, decl(255, low()), decl(64, low()), {Set: 256}} {
			if got, e := style.Resolve(s, d); got != (api.Style{}) || e != api.ErrStyle {
				t.Errorf("Resolve(%v, %v) is %v, %d", s, d, got, e)
			}
		}
	}
	for _, d := range wrongDecls() {
		for _, s := range append(valids(), api.Style{White: 6}) {
			if got, e := style.Resolve(s, d); got != (api.Style{}) || e != api.ErrStyle {
				t.Errorf("Resolve(%v, %v) is %v, %d", s, d, got, e)
			}
		}
	}
}

// P6.2: ErrStyle for either side, also where the other side declares what is not valid.
func TestMergeErrors(t *testing.T) {
	for _, d := range wrongDecls() {
		wantErrno(t, "a declaration that is not valid", style.CheckDecl(d), api.ErrStyle)
		for _, other := range []api.Decl{{}, decl(255, low()), decl(1, high()), d} {
			if got, e := style.Merge(d, other); got != (api.Decl{}) || e != api.ErrStyle {
				t.Errorf("Merge(%v, %v) is %v, %d", d, other, got, e)
			}
			if got, e := style.Merge(other, d); got != (api.Decl{}) || e != api.ErrStyle {
				t.Errorf("Merge(%v, %v) is %v, %d", other, d, got, e)
			}
		}
	}
}

// merge is Merge of what is valid.
func merge(t *testing.T, a, b api.Decl) api.Decl {
	t.Helper()
	d, e := style.Merge(a, b)
	if e != api.OK || style.CheckDecl(d) != api.OK {
		t.Fatalf("Merge(%v, %v) is %v, %d", a, b, d, e)
	}
	return d
}

// resolve is Resolve of what is valid.
func resolve(t *testing.T, s api.Style, d api.Decl) api.Style {
	t.Helper()
	got, e := style.Resolve(s, d)
	if e != api.OK || style.Check(got) != api.OK {
		t.Fatalf("Resolve(%v, %v) is %v, %d", s, d, got, e)
	}
	return got
}

// P6.4
func TestMergedIsOneAfterTheOther(t *testing.T) {
	r := source()
	for range 20000 {
		s, a, b, c := drawnStyle(r), drawnDecl(r), drawnDecl(r), drawnDecl(r)
		if one, both := resolve(t, resolve(t, s, a), b), resolve(t, s, merge(t, a, b)); one != both {
			t.Errorf("%v with %v, then %v: %v; merged: %v", s, a, b, one, both)
		}
		if left, right := merge(t, merge(t, a, b), c), merge(t, a, merge(t, b, c)); left != right {
			t.Errorf("%v, %v, %v: %v from the left, %v from the right", a, b, c, left, right)
		}
	}
}

// P6.4: a declaration that declares nothing changes nothing; one that declares all leaves nothing.
func TestNothingAndAll(t *testing.T) {
	r := source()
	for range 5000 {
		s, d, all := drawnStyle(r), drawnDecl(r), decl(255, drawnStyle(r))
		if got := resolve(t, s, api.Decl{}); got != s {
			t.Errorf("%v became %v", s, got)
		}
		if left, right := merge(t, api.Decl{}, d), merge(t, d, api.Decl{}); left != d || right != d {
			t.Errorf("%v became %v, and %v", d, left, right)
		}
		if got := resolve(t, s, all); got != all.Style {
			t.Errorf("%v became %v, not %v", s, got, all.Style)
		}
		if got := merge(t, d, all); got != all {
			t.Errorf("%v became %v, not %v", d, got, all)
		}
	}
}
