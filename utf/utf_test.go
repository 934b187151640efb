package utf_test

import (
	"math"
	"slices"
	"strings"
	"testing"
	"unicode/utf8"

	"stickful/api"
	"stickful/utf"
)

const wrong = 0xfffd

// codePoint reports whether r is one, by the chapter's first sentence.
func codePoint(r int32) bool { return 0 <= r && r <= 0x10ffff && (r < 0xd800 || r > 0xdfff) }

// oracle holds what a character can be, taken from the code points and not from the table of bytes.
type oracle struct {
	whole  map[string]int32
	begins map[string]bool
}

func newOracle() oracle {
	o := oracle{map[string]int32{}, map[string]bool{}}
	for r := int32(0); r <= 0x10ffff; r++ {
		if !codePoint(r) {
			continue
		}
		s := string(r)
		o.whole[s] = r
		for n := 1; n < len(s); n++ {
			o.begins[s[:n]] = true
		}
	}
	return o
}

// first is the first character of s, by the chapter's last sentence under 'Words'.
func (o oracle) first(s string) (r int32, length int, good bool) {
	for n := 1; n <= min(4, len(s)); n++ {
		if r, ok := o.whole[s[:n]]; ok {
			return r, n, true
		}
	}
	for n := min(3, len(s)); n > 1; n-- {
		if o.begins[s[:n]] {
			return wrong, n, false
		}
	}
	return wrong, 1, false
}

func (o oracle) characters(s string) (l []api.Char, valid bool) {
	valid = true
	for at := 0; at < len(s); {
		r, n, good := o.first(s[at:])
		l = append(l, api.Char{R: r, At: at, Len: n, Kind: api.ChText})
		valid = valid && good
		at += n
	}
	return l, valid
}

func (o oracle) check(t *testing.T, s string) {
	t.Helper()
	want, valid := o.characters(s)
	got := utf.Decode(s)
	if !slices.Equal(got, want) {
		t.Errorf("Decode(% x) is %v, not %v", s, got, want)
	}
	if n := utf.Count(s); n != len(want) {
		t.Errorf("Count(% x) is %d, not %d", s, n, len(want))
	}
	if v := utf.Valid(s); v != valid {
		t.Errorf("Valid(% x) is %v", s, v)
	}
	if back := utf.Encode(numbers(got)); (back == s) != valid {
		t.Errorf("% x is decoded and encoded as % x, and its being valid is %v", s, back, valid)
	}
	end := 0
	for _, c := range got {
		if c.At != end || c.Len < 1 {
			t.Errorf("Decode(% x) has %v where the byte %d is next", s, c, end)
		}
		end = c.At + c.Len
	}
	if end != len(s) {
		t.Errorf("Decode(% x) ends at %d", s, end)
	}
}

func numbers(l []api.Char) []int32 {
	var out []int32
	for _, c := range l {
		out = append(out, c.R)
	}
	return out
}

// brinks are the bytes at which a row of the table begins or ends, in any place, and those one beyond.
func brinks() string {
	return "\x00a\x7f\x80\x81\x8f\x90\x9f\xa0\xbe\xbf\xc0\xc1\xc2\xdf\xe0\xe1\xec\xed\xee\xef\xf0\xf1\xf3\xf4\xf5\xff"
}

// each calls f with all strings of n bytes out of the alphabet.
func each(alphabet string, n int, f func(string)) {
	b := make([]byte, n)
	var fill func(int)
	fill = func(at int) {
		if at == n {
			f(string(b))
			return
		}
		for i := range len(alphabet) {
			b[at] = alphabet[i]
			fill(at + 1)
		}
	}
	fill(0)
}

func allBytes() string {
	var b []byte
	for n := range 256 {
		b = append(b, byte(n))
	}
	return string(b)
}

// samples are short texts of all kinds: ordinary ones, ones that end within a character, bytes that begin none.
func samples() []string {
	l := []string{
		"", "a", "\x00", "\x7f", "ab c\r\n\t", "\u0080", "\u07ff", "ä", "\u0800", "€", "\ud7ff", "\ue000", "\ufffd", "\uffff", "\U00010000", "😀", "\U0010ffff",
		"Grüße, 世界 😀!", "\x80", "\xbf", "\xc0", "\xc1", "\xc0\xaf", "\xc1\xbf", "\xf5", "\xff", "\xfe\xff", "\xf5\x80\x80\x80", "\xf8\x88\x80\x80\x80",
		"\xc3", "\xe2", "\xe2\x82", "\xf0", "\xf0\x9f", "\xf0\x9f\x98", "\xe0\x80\x80", "\xe0\x9f\xbf", "\xed\xa0\x80", "\xed\xbf\xbf", "\xf0\x80\x80", "\xf0\x8f\xbf\xbf", "\xf4\x90\x80\x80",
		"a\xe2\x82", "\xe2\x82a", "\xf1\x80\x80\xe1\x80\xc2b", "\xf0\x9f\x98ä", "\xc3\xc3\xa4", "\xa4\xc3\xa4\xa4",
	}
	var out []string
	for _, s := range l {
		out = append(out, s, s+"z", "ä"+s, s+s)
	}
	return out
}

// P2.1, P2.2: each row of the table, at the edges of each of its places.
func TestRows(t *testing.T) {
	type place struct{ low, high byte }
	tail := place{0x80, 0xbf}
	for _, row := range [][]place{
		{{0x00, 0x7f}},
		{{0xc2, 0xdf}, tail},
		{{0xe0, 0xe0}, {0xa0, 0xbf}, tail},
		{{0xe1, 0xec}, tail, tail},
		{{0xee, 0xef}, tail, tail},
		{{0xed, 0xed}, {0x80, 0x9f}, tail},
		{{0xf0, 0xf0}, {0x90, 0xbf}, tail, tail},
		{{0xf1, 0xf3}, tail, tail, tail},
		{{0xf4, 0xf4}, {0x80, 0x8f}, tail, tail},
	} {
		for pick := range 1 << len(row) {
			b := make([]byte, len(row))
			for i, p := range row {
				b[i] = p.low
				if pick>>i&1 == 1 {
					b[i] = p.high
				}
			}
			s := string(b)
			r, _ := utf8.DecodeRuneInString(s)
			if got := utf.Decode(s); !slices.Equal(got, []api.Char{{R: r, Len: len(row)}}) || !utf.Valid(s) || utf.Count(s) != 1 {
				t.Errorf("% x is %v, valid %v", s, got, utf.Valid(s))
			}
			for i := 1; i < len(row); i++ {
				if got := utf.Decode(s[:i]); !slices.Equal(got, []api.Char{{R: wrong, Len: i}}) || utf.Valid(s[:i]) || utf.Count(s[:i]) != 1 {
					t.Errorf("% x, which ends within a character, is %v", s[:i], got)
				}
				for _, beyond := range []byte{row[i].low - 1, row[i].high + 1} {
					off := s[:i] + string([]byte{beyond}) + s[i+1:]
					got := utf.Decode(off)
					if len(got) < 2 || got[0] != (api.Char{R: wrong, Len: i}) || got[1].At != i || utf.Valid(off) {
						t.Errorf("% x, with %x at %d, is %v", off, beyond, i, got)
					}
				}
			}
		}
	}
	for _, b := range []byte{0x80, 0x81, 0xbf, 0xc0, 0xc1, 0xf5, 0xf6, 0xff} {
		s := string([]byte{b, 'a'})
		if got := utf.Decode(s); !slices.Equal(got, []api.Char{{R: wrong, Len: 1}, {R: 'a', At: 1, Len: 1}}) || utf.Valid(s) || utf.Count(s) != 2 {
			t.Errorf("% x, which begins no character, is %v", s, got)
		}
	}
}

// P2.1: the chapter's examples, and those beside them.
func TestDecodeExamples(t *testing.T) {
	for _, x := range []struct {
		s    string
		want []api.Char
	}{
		{"", nil},
		{"a\xc3\xa4", []api.Char{{R: 0x61, Len: 1}, {R: 0xe4, At: 1, Len: 2}}},
		{"\xe2\x82a", []api.Char{{R: wrong, Len: 2}, {R: 0x61, At: 2, Len: 1}}},
		{"\xf0\x80\x80", []api.Char{{R: wrong, Len: 1}, {R: wrong, At: 1, Len: 1}, {R: wrong, At: 2, Len: 1}}},
		{"\xed\xa0\x80", []api.Char{{R: wrong, Len: 1}, {R: wrong, At: 1, Len: 1}, {R: wrong, At: 2, Len: 1}}},
		{"\xc0\xaf", []api.Char{{R: wrong, Len: 1}, {R: wrong, At: 1, Len: 1}}},
		{"\xf1\x80\x80\xe1\x80", []api.Char{{R: wrong, Len: 3}, {R: wrong, At: 3, Len: 2}}},
		{"\xef\xbf\xbd\xef\xbf", []api.Char{{R: wrong, Len: 3}, {R: wrong, At: 3, Len: 2}}},
		{"\x00\U0010ffff", []api.Char{{R: 0, Len: 1}, {R: 0x10ffff, At: 1, Len: 4}}},
	} {
		if got := utf.Decode(x.s); !slices.Equal(got, x.want) {
			t.Errorf("Decode(% x) is %v, not %v", x.s, got, x.want)
		}
		if n := utf.Count(x.s); n != len(x.want) {
			t.Errorf("Count(% x) is %d", x.s, n)
		}
	}
}

// P2.1, P2.2, P2.3: strings of any bytes, held against what the code points' own bytes say.
func TestStrings(t *testing.T) {
	o := newOracle()
	each(allBytes(), 1, func(s string) { o.check(t, s) })
	each(allBytes(), 2, func(s string) { o.check(t, s) })
	for n := range 4 {
		each(brinks(), n, func(s string) { o.check(t, s) })
	}
	each("a\x7f\x80\x8f\x90\x9f\xa0\xbf\xc2\xe0\xe1\xed\xef\xf0\xf3\xf4", 4, func(s string) { o.check(t, s) })
	each("a\x80\xa0\xc2\xe1\xf1", 6, func(s string) { o.check(t, s) })
	for _, s := range samples() {
		o.check(t, s)
	}
	o.check(t, strings.Repeat("aä€😀\xf0\x9f\x98", 1000))
}

// P2.2: numbers that are code points, and numbers that are not.
func TestEncode(t *testing.T) {
	for _, x := range []struct {
		l    []int32
		want string
	}{
		{nil, ""},
		{[]int32{}, ""},
		{[]int32{0xe4, 0xd800, 0x110000}, "\xc3\xa4\xef\xbf\xbd\xef\xbf\xbd"},
		{[]int32{0, 0x7f, 0x80, 0x7ff}, "\x00\x7f\xc2\x80\xdf\xbf"},
		{[]int32{0x800, 0xd7ff, 0xe000, 0xffff}, "\xe0\xa0\x80\xed\x9f\xbf\xee\x80\x80\xef\xbf\xbf"},
		{[]int32{0x10000, 0x10ffff}, "\xf0\x90\x80\x80\xf4\x8f\xbf\xbf"},
		{[]int32{-1}, "\xef\xbf\xbd"},
		{[]int32{math.MinInt32, 0x61}, "\xef\xbf\xbda"},
		{[]int32{math.MaxInt32}, "\xef\xbf\xbd"},
		{[]int32{0xd800}, "\xef\xbf\xbd"},
		{[]int32{0xdfff}, "\xef\xbf\xbd"},
		{[]int32{-0x61, 0xdbff, 0xdc00, 0x61}, "\xef\xbf\xbd\xef\xbf\xbd\xef\xbf\xbda"},
	} {
		if got := utf.Encode(x.l); got != x.want {
			t.Errorf("Encode(%x) is % x, not % x", x.l, got, x.want)
		}
	}
	for r := int32(-0x1000); r <= 0x111000; r++ {
		want := "\xef\xbf\xbd"
		if codePoint(r) {
			want = string(r)
		}
		if got := utf.Encode([]int32{r}); got != want {
			t.Fatalf("Encode(%x) is % x, not % x", r, got, want)
		}
	}
}

// P2.2: what is well-formed, fffd's own bytes among it, and what is not.
func TestValid(t *testing.T) {
	for s, want := range map[string]bool{
		"": true, "a": true, "aä€😀": true, "\xef\xbf\xbd": true, "\x00": true, "\ud7ff\ue000": true, "\U0010ffff": true,
		"\x80": false, "a\xc3": false, "\xc3a": false, "\xe2\x82": false, "\xf1\x80\x80": false, "\xc0\x80": false, "\xed\xa0\x80": false, "\xf4\x90\x80\x80": false, "aä\xffz": false,
	} {
		if utf.Valid(s) != want {
			t.Errorf("Valid(% x) is not %v", s, want)
		}
	}
}

// P2.3: every code point comes back, alone and in one text with all others.
func TestRoundTrip(t *testing.T) {
	var all []int32
	for r := int32(0); r <= 0x10ffff; r++ {
		if !codePoint(r) {
			continue
		}
		all = append(all, r)
		s := utf.Encode([]int32{r})
		if got := utf.Decode(s); !slices.Equal(got, []api.Char{{R: r, Len: len(s)}}) || !utf.Valid(s) {
			t.Fatalf("%x, as % x, comes back as %v", r, s, got)
		}
	}
	slices.Reverse(all)
	s := utf.Encode(all)
	if got := numbers(utf.Decode(s)); !slices.Equal(got, all) || utf.Count(s) != len(all) || !utf.Valid(s) {
		t.Error("not all code points come back in one text")
	}
}

// P2.4: a text behind a valid one has the characters that it has alone.
func TestBehind(t *testing.T) {
	l := samples()
	each("a\x80\xbf\xc3\xe2\xf0\xf4", 3, func(s string) { l = append(l, s) })
	for _, before := range []string{"", "a", "ä", "€", "😀", "\ufffd", "\x00", "ab c", "ä€😀\U0010ffff"} {
		for _, s := range l {
			want := utf.Decode(before)
			for _, c := range utf.Decode(s) {
				c.At += len(before)
				want = append(want, c)
			}
			if got := utf.Decode(before + s); !slices.Equal(got, want) {
				t.Errorf("% x behind % x is %v, not %v", s, before, got, want)
			}
			if n := utf.Count(before + s); n != utf.Count(before)+utf.Count(s) {
				t.Errorf("Count of % x behind % x is %d", s, before, n)
			}
		}
	}
}

// R5: a list that is given is left as it is, and one that is returned is the caller's alone.
func TestMemory(t *testing.T) {
	given := []int32{-1, 0xd800, 0xe4, 7, 8}
	utf.Encode(given[:3])
	if !slices.Equal(given, []int32{-1, 0xd800, 0xe4, 7, 8}) {
		t.Error("Encode changed its argument:", given)
	}
	want := []api.Char{{R: 'a', Len: 1}, {R: wrong, At: 1, Len: 2}}
	one, two := utf.Decode("a\xe2\x82"), utf.Decode("a\xe2\x82")
	one = one[:cap(one)]
	for i := range one {
		one[i] = api.Char{R: -1, Node: -1, At: -1, Len: -1, Kind: 9}
	}
	if !slices.Equal(two, want) || !slices.Equal(utf.Decode("a\xe2\x82"), want) {
		t.Error("two results of Decode share memory")
	}
}
