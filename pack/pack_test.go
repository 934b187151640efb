package pack_test

import (
	"bytes"
	"math"
	"math/big"
	"reflect"
	"slices"
	"strings"
	"testing"

	"stickful/api"
	"stickful/pack"
)

const (
	greatest = int64(math.MaxInt64)
	least    = int64(math.MinInt64)
)

// num is a number's encoding, by the chapter's words: big's bytes are the fewest, big-endian.
func num(n uint64) string {
	if n < 248 {
		return string([]byte{byte(n)})
	}
	b := new(big.Int).SetUint64(n).Bytes()
	return string(append([]byte{byte(247 + len(b))}, b...))
}

// whole is an integer's encoding: it is computed with numbers that no word limits.
func whole(n int64) string {
	twice := new(big.Int).Lsh(new(big.Int).Abs(big.NewInt(n)), 1)
	if n < 0 {
		twice.Sub(twice, big.NewInt(1))
	}
	return num(twice.Uint64())
}

func truth(is bool) string {
	if is {
		return "\x01"
	}
	return "\x00"
}

func text(s string) string { return num(uint64(len(s))) + s }

func list[E any](l []E, element func(E) string) string {
	var b strings.Builder
	b.WriteString(num(uint64(len(l))))
	for _, e := range l {
		b.WriteString(element(e))
	}
	return b.String()
}

// around are the least and the greatest number of each length, each with its neighbours, and small ones.
func around() []uint64 {
	l := []uint64{0, 1, 2, 127, 128, 246, 247, 248, 249, 254, 255, 256, 257}
	for k := 1; k < 8; k++ {
		first := uint64(1) << (8 * k)
		l = append(l, first-2, first-1, first, first+1, first|0xa5, first/2)
	}
	l = append(l, 1<<63-1, 1<<63, 1<<63+1, math.MaxUint64-1, math.MaxUint64, 0x0102030405060708, 0xf8f9fafbfcfdfeff)
	slices.Sort(l)
	return slices.Compact(l)
}

// bothEnds are integers around those of around, of either sign.
func bothEnds() []int64 {
	l := []int64{least, least + 1, greatest, greatest - 1, -124, -125, 123, 124, 125}
	for _, n := range around() {
		l = append(l, int64(n/2), -int64(n/2), -int64(n/2)-1, int64(n))
	}
	slices.Sort(l)
	return slices.Compact(l)
}

// words are strings of lengths at the edges of a length's encoding, and of any bytes.
func words() []string {
	l := []string{"", "a", "ab", "\x00", "\xff", "\xf8\xf8", "ä€😀", "\xe2\x82", "\x00\x00\x00"}
	for _, n := range []int{246, 247, 248, 249, 255, 256, 257, 65535, 65536} {
		l = append(l, strings.Repeat("\xf8xy", n)[:n])
	}
	return l
}

// thing is one that is written, with its bytes: kinds are told apart by their type.
type thing struct {
	value any
	b     string
}

func things(values ...any) []thing {
	var l []thing
	for _, v := range values {
		var b string
		switch x := v.(type) {
		case uint64:
			b = num(x)
		case int64:
			b = whole(x)
		case bool:
			b = truth(x)
		case string:
			b = text(x)
		case []uint64:
			b = list(x, num)
		case []int64:
			b = list(x, whole)
		case []string:
			b = list(x, text)
		}
		l = append(l, thing{v, b})
	}
	return l
}

func (x thing) write(w *pack.Writer) {
	switch v := x.value.(type) {
	case uint64:
		w.Num(v)
	case int64:
		w.Int(v)
	case bool:
		w.Truth(v)
	case string:
		w.Text(v)
	case []uint64:
		w.Nums(v)
	case []int64:
		w.Ints(v)
	case []string:
		w.Texts(v)
	}
}

// read requests a thing of the same kind, and reports whether it is the same one.
func (x thing) read(r *pack.Reader) bool {
	switch v := x.value.(type) {
	case uint64:
		return r.Num() == v
	case int64:
		return r.Int() == v
	case bool:
		return r.Truth() == v
	case string:
		return r.Text() == v
	case []uint64:
		return slices.Equal(r.Nums(), v)
	case []int64:
		return slices.Equal(r.Ints(), v)
	case []string:
		return slices.Equal(r.Texts(), v)
	}
	return false
}

// kinds are things of each kind that are zero, or nothing.
func kinds() []thing {
	return things(uint64(0), int64(0), false, "", []uint64{}, []int64{}, []string{})
}

// zero is the thing of the same kind that is zero, or nothing.
func (x thing) zero() thing {
	l := kinds()
	return l[slices.IndexFunc(l, func(k thing) bool { return reflect.TypeOf(k.value) == reflect.TypeOf(x.value) })]
}

// all are things of each kind, ordinary ones and ones at the edges.
func all() []thing {
	var l []thing
	for _, n := range around() {
		l = append(l, things(n)...)
	}
	for _, n := range bothEnds() {
		l = append(l, things(n)...)
	}
	for _, s := range words() {
		l = append(l, things(s)...)
	}
	l = append(l, things(true, false)...)
	l = append(l, things([]uint64(nil), []uint64{}, []uint64{0}, []uint64{247, 248, 65536}, around())...)
	l = append(l, things([]int64(nil), []int64{}, []int64{-1}, []int64{1, -1}, []int64{least, 0, greatest}, bothEnds())...)
	l = append(l, things([]string(nil), []string{}, []string{""}, []string{"", ""}, []string{"ab", "", "\xff"}, words())...)
	l = append(l, things(make([]uint64, 247), make([]uint64, 248), make([]int64, 256), make([]string, 65536))...)
	return l
}

func bytesOf(l []thing) string {
	w := pack.NewWriter()
	for _, x := range l {
		x.write(w)
	}
	return w.Bytes()
}

// short shows the beginning of what can be long.
func short(s string) string { return s[:min(len(s), 24)] }

// failed reports what a reader that is not fine does otherwise than it must, whatever is requested of it.
func failed(t *testing.T, r *pack.Reader, of string) {
	t.Helper()
	if r.Fine() || r.Left() != 0 || r.End() != api.ErrForm {
		t.Errorf("% x: fine %v, left %d, end %d", short(of), r.Fine(), r.Left(), r.End())
	}
	for _, x := range kinds() {
		if !x.read(r) || r.Fine() || r.Left() != 0 || r.End() != api.ErrForm {
			t.Errorf("% x: a %T is read when the reader is not fine any more", short(of), x.value)
		}
	}
}

// P3.1: bytes by hand, at the edges of each length.
func TestNumBytes(t *testing.T) {
	for _, x := range []struct {
		n uint64
		b string
	}{
		{0, "\x00"}, {1, "\x01"}, {127, "\x7f"}, {128, "\x80"}, {246, "\xf6"}, {247, "\xf7"},
		{248, "\xf8\xf8"}, {249, "\xf8\xf9"}, {255, "\xf8\xff"},
		{256, "\xf9\x01\x00"}, {65535, "\xf9\xff\xff"},
		{65536, "\xfa\x01\x00\x00"}, {1<<24 - 1, "\xfa\xff\xff\xff"},
		{1 << 24, "\xfb\x01\x00\x00\x00"}, {1<<32 - 1, "\xfb\xff\xff\xff\xff"},
		{1 << 32, "\xfc\x01\x00\x00\x00\x00"}, {1<<40 - 1, "\xfc\xff\xff\xff\xff\xff"},
		{1 << 40, "\xfd\x01\x00\x00\x00\x00\x00"}, {1<<48 - 1, "\xfd\xff\xff\xff\xff\xff\xff"},
		{1 << 48, "\xfe\x01\x00\x00\x00\x00\x00\x00"}, {1<<56 - 1, "\xfe\xff\xff\xff\xff\xff\xff\xff"},
		{1 << 56, "\xff\x01\x00\x00\x00\x00\x00\x00\x00"}, {1<<64 - 1, "\xff\xff\xff\xff\xff\xff\xff\xff\xff"},
		{0x0102030405060708, "\xff\x01\x02\x03\x04\x05\x06\x07\x08"},
	} {
		w := pack.NewWriter()
		w.Num(x.n)
		if w.Bytes() != x.b {
			t.Errorf("Num(%d) is written as % x", x.n, w.Bytes())
		}
		r := pack.NewReader(x.b)
		if n := r.Num(); n != x.n || r.End() != api.OK {
			t.Errorf("% x is read as %d, end %d", x.b, n, r.End())
		}
	}
}

// P3.1: bytes by hand, at both ends and around 0.
func TestIntBytes(t *testing.T) {
	for _, x := range []struct {
		n int64
		b string
	}{
		{0, "\x00"}, {-1, "\x01"}, {1, "\x02"}, {-2, "\x03"}, {2, "\x04"}, {64, "\x80"},
		{123, "\xf6"}, {-124, "\xf7"}, {124, "\xf8\xf8"}, {-125, "\xf8\xf9"}, {-128, "\xf8\xff"}, {128, "\xf9\x01\x00"},
		{greatest, "\xff\xff\xff\xff\xff\xff\xff\xff\xfe"}, {least, "\xff\xff\xff\xff\xff\xff\xff\xff\xff"},
		{greatest - 1, "\xff\xff\xff\xff\xff\xff\xff\xff\xfc"}, {least + 1, "\xff\xff\xff\xff\xff\xff\xff\xff\xfd"},
	} {
		w := pack.NewWriter()
		w.Int(x.n)
		if w.Bytes() != x.b {
			t.Errorf("Int(%d) is written as % x", x.n, w.Bytes())
		}
		r := pack.NewReader(x.b)
		if n := r.Int(); n != x.n || r.End() != api.OK {
			t.Errorf("% x is read as %d, end %d", x.b, n, r.End())
		}
	}
}

// P3.1: bytes by hand of all other kinds, the chapter's examples among them.
func TestOtherBytes(t *testing.T) {
	for _, x := range []thing{
		{true, "\x01"}, {false, "\x00"},
		{"", "\x00"}, {"ab", "\x02ab"}, {"\x00\xff", "\x02\x00\xff"}, {strings.Repeat("x", 247), "\xf7" + strings.Repeat("x", 247)},
		{strings.Repeat("x", 248), "\xf8\xf8" + strings.Repeat("x", 248)}, {strings.Repeat("x", 256), "\xf9\x01\x00" + strings.Repeat("x", 256)},
		{[]uint64(nil), "\x00"}, {[]uint64{}, "\x00"}, {[]uint64{5}, "\x01\x05"}, {[]uint64{0, 247, 248}, "\x03\x00\xf7\xf8\xf8"},
		{[]int64(nil), "\x00"}, {[]int64{}, "\x00"}, {[]int64{1, -1}, "\x02\x02\x01"}, {[]int64{124}, "\x01\xf8\xf8"},
		{[]string(nil), "\x00"}, {[]string{}, "\x00"}, {[]string{""}, "\x01\x00"}, {[]string{"ab", "", "c"}, "\x03\x02ab\x00\x01c"},
		{make([]int64, 248), "\xf8\xf8" + strings.Repeat("\x00", 248)},
	} {
		if b := bytesOf([]thing{x}); b != x.b {
			t.Errorf("%T is written as % x, not % x", x.value, short(b), short(x.b))
		}
		r := pack.NewReader(x.b)
		if !x.read(r) || r.End() != api.OK {
			t.Errorf("% x is not read as the %T that it is, end %d", short(x.b), x.value, r.End())
		}
	}
}

// P3.1: each thing alone, and behind all those before it.
func TestWriterAppends(t *testing.T) {
	w := pack.NewWriter()
	if b := w.Bytes(); b != "" {
		t.Errorf("a new writer has % x", b)
	}
	want := ""
	for _, x := range all() {
		if b := bytesOf([]thing{x}); b != x.b {
			t.Errorf("%T is written as % x, not % x", x.value, short(b), short(x.b))
		}
		before := w.Bytes()
		x.write(w)
		if before != want {
			t.Fatalf("what Bytes returned is changed by writing %T", x.value)
		}
		want += x.b
		if w.Bytes() != want || w.Bytes() != want {
			t.Fatalf("%T is not appended", x.value)
		}
	}
}

// P3.1: writers have nothing to do with each other.
func TestTwoWriters(t *testing.T) {
	a, b := pack.NewWriter(), pack.NewWriter()
	for n := range 300 {
		a.Num(uint64(n))
		b.Int(int64(-n))
	}
	wantA, wantB := "", ""
	for n := range 300 {
		wantA += num(uint64(n))
		wantB += whole(int64(-n))
	}
	if a.Bytes() != wantA || b.Bytes() != wantB {
		t.Error("two writers share something")
	}
}

// P3.2, P3.3: what is written is read in the same order, each time to the byte at which the next thing begins.
func TestReadsWhatWasWritten(t *testing.T) {
	l := all()
	b := bytesOf(l)
	r := pack.NewReader(b)
	left := len(b)
	for i, x := range l {
		if r.Left() != left || !r.Fine() {
			t.Fatalf("at %d: left %d, not %d", i, r.Left(), left)
		}
		if left > 0 && r.End() != api.ErrForm {
			t.Fatalf("at %d: end %d, with bytes left", i, r.End())
		}
		if !x.read(r) {
			t.Errorf("%T at %d is not read", x.value, i)
		}
		left -= len(x.b)
	}
	if left != 0 || r.Left() != 0 || !r.Fine() || r.End() != api.OK {
		t.Error(left, r.Left(), r.Fine(), r.End())
	}
}

// P3.2: Left, Fine and End change nothing, and a reader of no bytes is fine.
func TestReaderOfNothing(t *testing.T) {
	r := pack.NewReader("")
	for range 2 {
		if r.Left() != 0 || !r.Fine() || r.End() != api.OK {
			t.Error(r.Left(), r.Fine(), r.End())
		}
	}
	for _, x := range kinds() {
		r := pack.NewReader("")
		if !x.read(r) {
			t.Errorf("a %T is read from nothing", x.value)
		}
		failed(t, r, "")
	}
}

// P3.2: what is left over is ErrForm, and does not make a reader not fine.
func TestLeftOver(t *testing.T) {
	for _, x := range all() {
		r := pack.NewReader(x.b + "\x00")
		if !x.read(r) || r.Left() != 1 || !r.Fine() || r.End() != api.ErrForm || r.End() != api.ErrForm {
			t.Errorf("%T before a byte: left %d, fine %v, end %d", x.value, r.Left(), r.Fine(), r.End())
		}
		if r.Num() != 0 || !r.Fine() || r.End() != api.OK {
			t.Errorf("the byte behind %T: left %d, fine %v, end %d", x.value, r.Left(), r.Fine(), r.End())
		}
	}
}

// P3.2, P3.4: each thing that is truncated at any place, however long the rest is.
func TestTruncated(t *testing.T) {
	for _, x := range all() {
		step := max(1, len(x.b)/300)
		for n := len(x.b) - 1; n >= 0; n -= step {
			r := pack.NewReader(x.b[:n])
			if !x.zero().read(r) {
				t.Errorf("something is read as %T from % x, of %d bytes", x.value, short(x.b), n)
			}
			failed(t, r, x.b[:n])
		}
	}
}

// P3.4: a row of things that lacks bytes at its end: what is before is read, and what is requested from there on is not.
func TestTruncatedRow(t *testing.T) {
	l := things(uint64(300), int64(-5), true, "abc", []uint64{1, 70000}, false, []int64{}, []int64{least, 3}, []string{"", "xy"}, uint64(7), "", []string{"z"})
	b := bytesOf(l)
	for n := range len(b) {
		r := pack.NewReader(b[:n])
		at := 0
		for _, x := range l {
			at += len(x.b)
			if at > n {
				if !x.zero().read(r) {
					t.Errorf("a %T is read that does not end before %d", x.value, n)
				}
				failed(t, r, b[:n])
				continue
			}
			if !x.read(r) || !r.Fine() || r.Left() != n-at {
				t.Errorf("%T before the end at %d is not read", x.value, n)
			}
		}
	}
}

// overlong are the encodings of n in more bytes than it needs.
func overlong(n uint64) []string {
	var l []string
	for k := 1; k <= 8; k++ {
		b := []byte{byte(247 + k)}
		for at := k - 1; at >= 0; at-- {
			b = append(b, byte(n>>(8*at)))
		}
		if k == 8 || n>>(8*k) == 0 {
			if string(b) != num(n) {
				l = append(l, string(b))
			}
		}
	}
	return l
}

// P3.2, R6: a number in more bytes than it needs is not encoded, wherever a number is.
func TestOverlong(t *testing.T) {
	for _, n := range around() {
		for _, b := range overlong(n) {
			for _, tail := range []string{"", strings.Repeat("\x00", 300)} {
				for _, x := range kinds() {
					r := pack.NewReader(b + tail)
					if !x.read(r) {
						t.Errorf("% x is read as %T", b, x.value)
					}
					failed(t, r, b)
				}
				for _, x := range kinds()[4:] { // as an element, behind one that is fine
					r := pack.NewReader("\x02\x00" + b + tail)
					if !x.read(r) {
						t.Errorf("% x is read as an element of %T", b, x.value)
					}
					failed(t, r, b)
				}
			}
		}
	}
}

// P3.2, R6: any bytes are read as a number exactly if they begin as one is written.
func TestAnyBytesAsNumber(t *testing.T) {
	check := func(b string) {
		r := pack.NewReader(b)
		n := r.Num()
		if r.Fine() {
			if want := num(n); !strings.HasPrefix(b, want) || r.Left() != len(b)-len(want) {
				t.Errorf("% x is read as %d, left %d", b, n, r.Left())
			}
			return
		}
		if n != 0 || r.Left() != 0 {
			t.Errorf("% x is not fine, and read as %d, left %d", b, n, r.Left())
		}
		if len(b) > 0 && b[0] < 248 || len(b) == 2 && b >= "\xf8\xf8" && b[0] == 0xf8 || len(b) == 3 && b[0] == 0xf9 && b[1] > 0 {
			t.Errorf("% x is not read", b)
		}
	}
	for a := range 256 {
		check(string([]byte{byte(a)}))
		for b := range 256 {
			check(string([]byte{byte(a), byte(b)}))
		}
	}
	for a := 0xf7; a < 256; a++ {
		for n := range 1 << 16 {
			check(string([]byte{byte(a), byte(n >> 8), byte(n)}))
		}
	}
}

// P3.2: a byte other than 0 and 1 is not a boolean, whatever is behind it.
func TestNotTruth(t *testing.T) {
	for b := range 256 {
		for _, tail := range []string{"", "\x00", "\x01", "\xff\xff\xff\xff\xff\xff\xff\xff\xff"} {
			s := string([]byte{byte(b)}) + tail
			r := pack.NewReader(s)
			is := r.Truth()
			if b < 2 {
				if is != (b == 1) || !r.Fine() || r.Left() != len(tail) {
					t.Errorf("% x is read as %v, left %d", s, is, r.Left())
				}
				continue
			}
			if is {
				t.Errorf("% x is read as true", s)
			}
			failed(t, r, s)
		}
	}
}

// P3.2: a length, or a number of elements, that is greater than what is left.
func TestTooLong(t *testing.T) {
	for _, n := range around() {
		for _, have := range []int{0, 1, 2, 247, 300} {
			if n <= uint64(have) {
				continue
			}
			b := num(n) + strings.Repeat("\x00", have)
			for _, x := range kinds()[3:] {
				r := pack.NewReader(b)
				if !x.read(r) {
					t.Errorf("% x, with %d bytes behind the number, is read as %T", short(b), have, x.value)
				}
				failed(t, r, b)
			}
		}
	}
	for _, b := range []string{"\x03ab", "\x02\x02ab\x02a", "\x02\x02ab\x03ab", "\x01\xff\xff\xff\xff\xff\xff\xff\xff\xffab"} {
		r := pack.NewReader(b)
		if l := r.Texts(); len(l) != 0 {
			t.Errorf("% x is read as %q", b, l)
		}
		failed(t, r, b)
	}
}

// P3.2: nothing of a list is returned when one of its elements is not there, and what is behind it is not read.
func TestListThatBreaksOff(t *testing.T) {
	for _, b := range []string{"\x03\x05\x06\xf8\x07\x09", "\x03\x05\x06\xf9\x00\xff\x09", "\x04\x01\x01\x01\xf8", "\x02\xff\x00"} {
		for _, x := range kinds()[4:6] {
			r := pack.NewReader(b)
			if !x.read(r) {
				t.Errorf("a part of % x is read as %T", b, x.value)
			}
			failed(t, r, b)
		}
	}
	r := pack.NewReader("\x01\x05\xf8\x07\x01\x05")
	if l := r.Nums(); !slices.Equal(l, []uint64{5}) || !r.Fine() || r.Left() != 4 {
		t.Error(l, r.Fine(), r.Left())
	}
	if l := r.Nums(); len(l) != 0 {
		t.Error(l)
	}
	failed(t, r, "")
}

// P3.2: the chapter's last examples.
func TestWrongNumbers(t *testing.T) {
	for _, b := range []string{"\xf8\x07", "\xf9\x00\xff", "\xf8"} {
		r := pack.NewReader(b)
		if n := r.Num(); n != 0 {
			t.Errorf("% x is read as %d", b, n)
		}
		failed(t, r, b)
	}
}

// P3.3: any bytes, requested by any row of kinds: what is read would be written as what is removed.
func TestWhatIsReadIsWritten(t *testing.T) {
	alphabet := []byte{0, 0, 0, 1, 1, 2, 3, 4, 9, 'a', 0xf7, 0xf8, 0xf8, 0xf8, 0xf9, 0xfa, 0xff}
	state := uint64(0x9e3779b97f4a7c15)
	next := func(below int) int {
		state ^= state << 13
		state ^= state >> 7
		state ^= state << 17
		return int(state>>33) % below
	}
	fine := 0
	for range 60000 {
		b := make([]byte, next(24))
		for i := range b {
			b[i] = alphabet[next(len(alphabet))]
		}
		r, w := pack.NewReader(string(b)), pack.NewWriter()
		for range 6 {
			copyOne(r, w, next(7))
			if !r.Fine() {
				break
			}
			if w.Bytes() != string(b[:len(b)-r.Left()]) {
				t.Fatalf("what is read from % x is written as % x, left %d", b, w.Bytes(), r.Left())
			}
			fine++
		}
	}
	if fine < 10000 {
		t.Error("only", fine, "things are read")
	}
}

// copyOne reads a thing of a kind, and writes it.
func copyOne(r *pack.Reader, w *pack.Writer, kind int) {
	switch kind {
	case 0:
		w.Num(r.Num())
	case 1:
		w.Int(r.Int())
	case 2:
		w.Truth(r.Truth())
	case 3:
		w.Text(r.Text())
	case 4:
		w.Nums(r.Nums())
	case 5:
		w.Ints(r.Ints())
	case 6:
		w.Texts(r.Texts())
	}
}

// P3.3: when they are sorted, an encoding that is a prefix of others is next to one of them.
func TestNoPrefix(t *testing.T) {
	check := func(l []string) {
		t.Helper()
		slices.Sort(l)
		for i := 1; i < len(l); i++ {
			if strings.HasPrefix(l[i], l[i-1]) {
				t.Errorf("% x is a prefix of % x", short(l[i-1]), short(l[i]))
			}
		}
	}
	var numbers, integers, strs []string
	for n := range uint64(70000) {
		numbers = append(numbers, bytesOf(things(n)))
		integers = append(integers, bytesOf(things(int64(n)-35000)))
	}
	for _, n := range around() {
		if n >= 70000 {
			numbers = append(numbers, bytesOf(things(n)))
		}
	}
	for _, n := range bothEnds() {
		if n >= 35000 || n < -35000 {
			integers = append(integers, bytesOf(things(n)))
		}
	}
	for n := range 600 {
		strs = append(strs, bytesOf(things(strings.Repeat("\x00", n))))
		if n > 0 {
			strs = append(strs, bytesOf(things(strings.Repeat("\xf8", n))))
		}
	}
	check(numbers)
	check(integers)
	check(strs)
}

// P3.1, R1: writers that NewWriter did not return.
func TestNoWriter(t *testing.T) {
	for _, w := range []*pack.Writer{nil, new(pack.Writer), {}} {
		if w.Bytes() != "" {
			t.Errorf("a writer that is none has % x", w.Bytes())
		}
		for _, x := range all() {
			x.write(w)
			if w.Bytes() != "" {
				t.Errorf("a writer that is none has % x after %T", short(w.Bytes()), x.value)
			}
		}
	}
}

// P3.2, R1: readers that NewReader did not return.
func TestNoReader(t *testing.T) {
	for _, r := range []*pack.Reader{nil, new(pack.Reader), {}} {
		for range 2 {
			if r.Left() != 0 || r.Fine() || r.End() != api.ErrNil {
				t.Error(r.Left(), r.Fine(), r.End())
			}
			for _, x := range kinds() {
				if !x.read(r) || r.Left() != 0 || r.Fine() || r.End() != api.ErrNil {
					t.Errorf("a reader that is none: %T; left %d, fine %v, end %d", x.value, r.Left(), r.Fine(), r.End())
				}
			}
		}
	}
}

// R5: lists that are given are left as they are, with what is behind them, and not kept.
func TestGivenLists(t *testing.T) {
	nums, ints, texts := []uint64{1, 300, 3, 4}, []int64{-1, 300, 3, 4}, []string{"a", "bc", "d", "e"}
	w := pack.NewWriter()
	w.Nums(nums[:2])
	w.Ints(ints[:2])
	w.Texts(texts[:2])
	if !slices.Equal(nums, []uint64{1, 300, 3, 4}) || !slices.Equal(ints, []int64{-1, 300, 3, 4}) || !slices.Equal(texts, []string{"a", "bc", "d", "e"}) {
		t.Error("an argument is changed:", nums, ints, texts)
	}
	want := w.Bytes()
	nums[0], ints[0], texts[0] = 9, 9, "z"
	if w.Bytes() != want || want != "\x02\x01\xf9\x01\x2c\x02\x01\xf9\x02\x58\x02\x01a\x02bc" {
		t.Errorf("% x", w.Bytes())
	}
}

// R5: lists that are returned are the caller's alone, with their spare capacity.
func TestReturnedLists(t *testing.T) {
	b := bytesOf(things([]uint64{1, 2, 3}, []uint64{4, 5, 6}))
	r := pack.NewReader(b)
	one := r.Nums()
	clear(one[:cap(one)])
	two := r.Nums()
	clear(one[:cap(one)])
	if !slices.Equal(two, []uint64{4, 5, 6}) || !slices.Equal(pack.NewReader(b).Nums(), []uint64{1, 2, 3}) {
		t.Error("two lists share memory:", two)
	}
	raw := []byte("\x02ab")
	s := pack.NewReader(string(raw))
	clear(raw)
	if s.Text() != "ab" || !bytes.Equal(raw, make([]byte, 3)) {
		t.Error("a reader depends on memory that is not its own")
	}
}
