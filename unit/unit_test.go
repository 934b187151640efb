package unit_test

import (
	"math"
	"math/big"
	"slices"
	"testing"

	"stickful/api"
	"stickful/unit"
)

const (
	fit      = int64(1) << 62
	greatest = int64(math.MaxInt64)
	least    = int64(math.MinInt64)
)

// edges are the numbers that the chapter names, each with its neighbours, and small ones of either sign.
func edges() []int64 {
	l := []int64{least, least + 1, least + 2, greatest, greatest - 1, greatest - 2}
	for _, n := range []int64{0, 3, 7, 8, 64, 1 << 30, 1 << 31, 1 << 32, 1 << 61, fit} {
		for d := int64(-1); d <= 1; d++ {
			l = append(l, n+d, -n+d)
		}
	}
	slices.Sort(l)
	return slices.Compact(l)
}

// steady produces numbers of all lengths by a fixed rule, the same ones in each run.
func steady(count int) []int64 {
	var l []int64
	state := uint64(0x9e3779b97f4a7c15)
	for i := range count {
		state ^= state << 13
		state ^= state >> 7
		state ^= state << 17
		l = append(l, int64(state)>>(i*7%64))
	}
	return l
}

// exact is the length n as one that fits, or ErrOver.
func exact(n *big.Int) (int64, api.Errno) {
	if n.CmpAbs(big.NewInt(fit)) > 0 {
		return 0, api.ErrOver
	}
	return n.Int64(), api.OK
}

func exactSum(l []int64) (int64, api.Errno) {
	sum := new(big.Int)
	for _, n := range l {
		sum.Add(sum, big.NewInt(n))
	}
	return exact(sum)
}

// exactScale rounds by the floor of the quotient and a half; Euclidean division is the floor, as of is above 0.
func exactScale(n, by, of int64) (int64, api.Errno) {
	if of < 1 {
		return 0, api.ErrArg
	}
	twice := new(big.Int).Mul(big.NewInt(n), big.NewInt(by))
	twice.Lsh(twice, 1).Add(twice, big.NewInt(of))
	return exact(twice.Div(twice, new(big.Int).Lsh(big.NewInt(of), 1)))
}

func exactStop(x, step int64) (int64, api.Errno) {
	if step < 1 {
		return 0, api.ErrArg
	}
	s := big.NewInt(step)
	n := new(big.Int).Div(big.NewInt(x), s)
	return exact(n.Add(n, big.NewInt(1)).Mul(n, s))
}

func checkSum(t *testing.T, l ...int64) {
	t.Helper()
	want, wantErr := exactSum(l)
	if n, e := unit.Sum(l...); n != want || e != wantErr {
		t.Errorf("Sum(%v) = %d, %d, want %d, %d", l, n, e, want, wantErr)
	}
}

func checkScale(t *testing.T, n, by, of int64) {
	t.Helper()
	want, wantErr := exactScale(n, by, of)
	if got, e := unit.Scale(n, by, of); got != want || e != wantErr {
		t.Errorf("Scale(%d, %d, %d) = %d, %d, want %d, %d", n, by, of, got, e, want, wantErr)
	}
}

func checkStop(t *testing.T, x, step int64) {
	t.Helper()
	want, wantErr := exactStop(x, step)
	if n, e := unit.Stop(x, step); n != want || e != wantErr {
		t.Errorf("Stop(%d, %d) = %d, %d, want %d, %d", x, step, n, e, want, wantErr)
	}
}

// P1.1
func TestMay(t *testing.T) {
	for _, x := range []struct {
		n    int64
		want bool
	}{
		{0, true}, {1, true}, {-1, true},
		{1 << 30, true}, {-1 << 30, true}, {1<<30 - 1, true}, {1 - 1<<30, true},
		{1<<30 + 1, false}, {-1<<30 - 1, false}, {1 << 32, false}, {-1 << 32, false},
		{fit, false}, {-fit, false}, {greatest, false}, {least, false},
	} {
		if got := unit.May(x.n); got != x.want {
			t.Errorf("May(%d) = %t", x.n, got)
		}
	}
}

// P1.1
func TestSumTable(t *testing.T) {
	for _, x := range []struct {
		l    []int64
		want int64
		e    api.Errno
	}{
		{nil, 0, api.OK},
		{[]int64{}, 0, api.OK},
		{[]int64{5}, 5, api.OK},
		{[]int64{1, -3}, -2, api.OK},
		{[]int64{1, 2, 3, 4}, 10, api.OK},
		{[]int64{fit}, fit, api.OK},
		{[]int64{-fit}, -fit, api.OK},
		{[]int64{fit + 1}, 0, api.ErrOver},
		{[]int64{-fit - 1}, 0, api.ErrOver},
		{[]int64{fit, 1}, 0, api.ErrOver},
		{[]int64{-fit, -1}, 0, api.ErrOver},
		{[]int64{greatest}, 0, api.ErrOver},
		{[]int64{least}, 0, api.ErrOver},
		{[]int64{greatest, -fit}, fit - 1, api.OK},
		{[]int64{greatest, least}, -1, api.OK},
		{[]int64{least, fit}, -fit, api.OK},
		{[]int64{fit, fit, fit, fit}, 0, api.ErrOver},
		{[]int64{least, least}, 0, api.ErrOver},
		{[]int64{fit, fit, fit, fit, -fit, -fit, -fit}, fit, api.OK},
		{[]int64{-fit, -fit, -fit, -fit, -fit, fit, fit, fit, fit}, -fit, api.OK},
		{[]int64{fit, 1, -1}, fit, api.OK},
	} {
		if n, e := unit.Sum(x.l...); n != x.want || e != x.e {
			t.Errorf("Sum(%v) = %d, %d, want %d, %d", x.l, n, e, x.want, x.e)
		}
	}
}

// P1.1
func TestSumIsExact(t *testing.T) {
	l := edges()
	for _, a := range l {
		checkSum(t, a)
		for _, b := range l {
			checkSum(t, a, b)
			checkSum(t, a, b, -fit)
			checkSum(t, a, b, least, greatest, 1)
		}
	}
	many := steady(400)
	for i := range many {
		checkSum(t, many[i:]...)
		checkSum(t, many[i/2:i]...)
	}
}

// P1.1: sums whose lower word alone would be a length that fits.
func TestSumOfManyGreatNumbers(t *testing.T) {
	var high, low []int64
	for i := range 64 {
		high, low = append(high, greatest), append(low, least)
		checkSum(t, high...)
		checkSum(t, low...)
		checkSum(t, append(slices.Clone(high), low...)...)
		checkSum(t, append(slices.Clone(high), int64(i), 1)...)
	}
}

// R5
func TestSumLeavesItsArguments(t *testing.T) {
	l := []int64{greatest, 1, least, 7, 5, 6}
	before := slices.Clone(l)
	unit.Sum(l[:4]...)
	if !slices.Equal(l, before) {
		t.Error(l)
	}
}

// P1.2
func TestScaleTable(t *testing.T) {
	for _, x := range []struct {
		n, by, of, want int64
		e               api.Errno
	}{
		{7, 1, 2, 4, api.OK}, {-7, 1, 2, -3, api.OK}, {7, -1, 2, -3, api.OK}, {-7, -1, 2, 4, api.OK},
		{1, 1, 2, 1, api.OK}, {-1, 1, 2, 0, api.OK}, {3, 1, 2, 2, api.OK}, {-3, 1, 2, -1, api.OK},
		{5, 3, 4, 4, api.OK}, {-5, 3, 4, -4, api.OK},
		{1, 1, 3, 0, api.OK}, {2, 1, 3, 1, api.OK}, {-1, 1, 3, 0, api.OK}, {-2, 1, 3, -1, api.OK},
		{0, 5, 3, 0, api.OK}, {0, -5, 3, 0, api.OK}, {5, 0, 3, 0, api.OK}, {-5, 0, 3, 0, api.OK},
		{greatest, 1, 2, fit, api.OK}, {-greatest, 1, 2, 1 - fit, api.OK}, {least, 1, 2, -fit, api.OK},
		{least, -1, 2, fit, api.OK}, {least, least, greatest, 0, api.ErrOver},
		{fit, 1, 1, fit, api.OK}, {-fit, 1, 1, -fit, api.OK}, {fit + 1, 1, 1, 0, api.ErrOver}, {-fit - 1, 1, 1, 0, api.ErrOver},
		{fit, 4, 2, 0, api.ErrOver}, {fit, 3, 3, fit, api.OK}, {greatest, greatest, greatest, 0, api.ErrOver},
		{fit, greatest, greatest, fit, api.OK}, {-fit, greatest, greatest, -fit, api.OK},
		{1, 1, greatest, 0, api.OK}, {fit, 1, greatest, 1, api.OK}, {fit - 1, 1, greatest, 0, api.OK},
		{-fit, 1, greatest, -1, api.OK}, {1 - fit, 1, greatest, 0, api.OK},
		{greatest, greatest, 1, 0, api.ErrOver}, {least, least, 1, 0, api.ErrOver}, {greatest, least, 1, 0, api.ErrOver},
	} {
		if n, e := unit.Scale(x.n, x.by, x.of); n != x.want || e != x.e {
			t.Errorf("Scale(%d, %d, %d) = %d, %d, want %d, %d", x.n, x.by, x.of, n, e, x.want, x.e)
		}
	}
}

// P1.2: the quotient and a half is 2^64, which one word does not hold.
func TestScaleDoesNotWrapRound(t *testing.T) {
	for _, n := range []int64{31, -31} {
		if got, e := unit.Scale(n, 1190112520884487201, 2); got != 0 || e != api.ErrOver {
			t.Errorf("%d: %d, %d", n, got, e)
		}
	}
}

// P1.2: whether a result fits is decided after rounding. The products are 2^63 + 1, 2^64 + 1 and 2^64 + 3.
func TestScaleRoundsFirst(t *testing.T) {
	for _, x := range []struct {
		n, by, of, want int64
		e               api.Errno
	}{
		{3, 3074457345618258603, 2, 0, api.ErrOver}, {-3, 3074457345618258603, 2, -fit, api.OK},
		{274177, 67280421310721, 4, fit, api.OK}, {274177, -67280421310721, 4, -fit, api.OK},
		{467443687, 39463029637, 4, 0, api.ErrOver}, {-467443687, 39463029637, 4, 0, api.ErrOver},
	} {
		if n, e := unit.Scale(x.n, x.by, x.of); n != x.want || e != x.e {
			t.Errorf("Scale(%d, %d, %d) = %d, %d, want %d, %d", x.n, x.by, x.of, n, e, x.want, x.e)
		}
	}
}

// P1.2: a wrong divisor is told before a result that does not fit.
func TestScaleWrongDivisor(t *testing.T) {
	for _, of := range []int64{0, -1, -2, -fit, least} {
		for _, n := range edges() {
			if got, e := unit.Scale(n, greatest, of); got != 0 || e != api.ErrArg {
				t.Errorf("Scale(%d, .., %d) = %d, %d", n, of, got, e)
			}
		}
	}
}

// P1.2
func TestScaleIsExact(t *testing.T) {
	l := edges()
	for _, n := range l {
		for _, by := range l {
			for _, of := range l {
				checkScale(t, n, by, of)
			}
		}
	}
	for n := int64(-20); n <= 20; n++ {
		for by := int64(-6); by <= 6; by++ {
			for of := int64(-1); of <= 9; of++ {
				checkScale(t, n, by, of)
			}
		}
	}
	many := steady(3000)
	for i := 0; i+2 < len(many); i++ {
		checkScale(t, many[i], many[i+1], many[i+2])
	}
}

// P1.3
func TestHalvesTable(t *testing.T) {
	for _, x := range [][3]int64{
		{0, 0, 0}, {1, 0, 1}, {-1, -1, 0}, {2, 1, 1}, {-2, -1, -1}, {7, 3, 4}, {-7, -4, -3},
		{fit, fit / 2, fit / 2}, {fit + 1, fit / 2, fit/2 + 1}, {-fit - 1, -fit/2 - 1, -fit / 2},
		{greatest, fit - 1, fit}, {least, -fit, -fit}, {least + 1, -fit, 1 - fit},
	} {
		if low, high := unit.Halves(x[0]); low != x[1] || high != x[2] {
			t.Errorf("Halves(%d) = %d, %d", x[0], low, high)
		}
	}
}

// P1.3
func TestStopTable(t *testing.T) {
	for _, x := range []struct {
		x, step, want int64
		e             api.Errno
	}{
		{0, 8, 8, api.OK}, {7, 8, 8, api.OK}, {8, 8, 16, api.OK}, {5, 8, 8, api.OK}, {9, 8, 16, api.OK},
		{-1, 8, 0, api.OK}, {-7, 8, 0, api.OK}, {-8, 8, 0, api.OK}, {-9, 8, -8, api.OK}, {-16, 8, -8, api.OK}, {-17, 8, -16, api.OK},
		{0, 1, 1, api.OK}, {-1, 1, 0, api.OK}, {41, 1, 42, api.OK},
		{fit - 1, 1, fit, api.OK}, {fit, 1, 0, api.ErrOver}, {fit - 1, 2, fit, api.OK}, {fit - 2, 2, fit, api.OK}, {fit - 1, 3, 0, api.ErrOver},
		{-fit - 1, 1, -fit, api.OK}, {-fit - 2, 1, 0, api.ErrOver}, {-fit - 1, fit, -fit, api.OK}, {-2*fit + 1, fit, -fit, api.OK}, {-2 * fit, fit, -fit, api.OK},
		{0, fit, fit, api.OK}, {0, fit + 1, 0, api.ErrOver}, {-1, greatest, 0, api.OK}, {0, greatest, 0, api.ErrOver},
		{greatest, 1, 0, api.ErrOver}, {greatest, greatest, 0, api.ErrOver}, {least, 1, 0, api.ErrOver}, {least, greatest, 0, api.ErrOver},
		{-greatest, greatest, 0, api.OK}, {least, 3, 0, api.ErrOver},
	} {
		if n, e := unit.Stop(x.x, x.step); n != x.want || e != x.e {
			t.Errorf("Stop(%d, %d) = %d, %d, want %d, %d", x.x, x.step, n, e, x.want, x.e)
		}
	}
}

// P1.3: a wrong step is told before a result that does not fit.
func TestStopWrongStep(t *testing.T) {
	for _, step := range []int64{0, -1, -8, -fit, least} {
		for _, x := range edges() {
			if n, e := unit.Stop(x, step); n != 0 || e != api.ErrArg {
				t.Errorf("Stop(%d, %d) = %d, %d", x, step, n, e)
			}
		}
	}
}

// P1.3
func TestStopIsExact(t *testing.T) {
	l := edges()
	for _, x := range l {
		for _, step := range l {
			checkStop(t, x, step)
		}
	}
	for x := int64(-40); x <= 40; x++ {
		for step := int64(-1); step <= 17; step++ {
			checkStop(t, x, step)
		}
	}
	many := steady(3000)
	for i := 0; i+1 < len(many); i++ {
		checkStop(t, many[i], many[i+1])
	}
}

// P1.4: a sum does not depend on the order.
func TestSumOfEachOrder(t *testing.T) {
	for _, l := range [][]int64{
		{greatest, greatest, least, least, 5},
		{fit, 1, -1, fit, -fit},
		{greatest, 1, 1, least, 3},
		{fit, fit, fit, -1, 2},
	} {
		want, wantErr := unit.Sum(l...)
		orders(slices.Clone(l), 0, func(order []int64) {
			if n, e := unit.Sum(order...); n != want || e != wantErr {
				t.Errorf("Sum(%v) = %d, %d, want %d, %d", order, n, e, want, wantErr)
			}
		})
	}
}

// orders shows each order of l that leaves what is before from.
func orders(l []int64, from int, show func([]int64)) {
	if from == len(l) {
		show(l)
		return
	}
	for i := from; i < len(l); i++ {
		l[from], l[i] = l[i], l[from]
		orders(l, from+1, show)
		l[from], l[i] = l[i], l[from]
	}
}

// P1.4: by equal to of.
func TestScaleByAsMuch(t *testing.T) {
	for _, n := range edges() {
		for _, of := range edges() {
			if of < 1 {
				continue
			}
			want, wantErr := unit.Sum(n)
			if got, e := unit.Scale(n, of, of); got != want || e != wantErr {
				t.Errorf("Scale(%d, %d, %d) = %d, %d", n, of, of, got, e)
			}
		}
	}
}

// P1.4: a greater n is not scaled to less.
func TestScaleKeepsTheOrder(t *testing.T) {
	for _, by := range []int64{0, 1, 2, 3, 5, 1 << 30, greatest} {
		for _, of := range []int64{1, 2, 3, 4, 7, 1024, fit, greatest} {
			before := least
			for _, n := range edges() {
				got, e := unit.Scale(n, by, of)
				if e != api.OK {
					continue
				}
				if got < before {
					t.Errorf("Scale(%d, %d, %d) = %d, after %d", n, by, of, got, before)
				}
				before = got
			}
		}
	}
}

// P1.4: twice the result times of differs from twice the product by at most of.
func TestScaleIsNear(t *testing.T) {
	many := append(steady(2000), edges()...)
	for i := 0; i+2 < len(many); i++ {
		n, by, of := many[i], many[i+1], many[i+2]
		got, e := unit.Scale(n, by, of)
		if e != api.OK {
			continue
		}
		off := new(big.Int).Mul(big.NewInt(got), big.NewInt(of))
		off.Sub(off, new(big.Int).Mul(big.NewInt(n), big.NewInt(by)))
		if off.Lsh(off, 1).CmpAbs(big.NewInt(of)) > 0 {
			t.Errorf("Scale(%d, %d, %d) = %d", n, by, of, got)
		}
	}
}

// P1.5
func TestHalvesTogether(t *testing.T) {
	for _, n := range append(steady(2000), edges()...) {
		low, high := unit.Halves(n)
		if low+high != n || high != low && high != low+1 {
			t.Errorf("Halves(%d) = %d, %d", n, low, high)
		}
	}
}

// P1.5
func TestStopsFollowEachOther(t *testing.T) {
	stops := 0
	for _, x := range edges() {
		for _, step := range edges() {
			stop, e := unit.Stop(x, step)
			if e != api.OK {
				continue
			}
			stops++
			if stop <= x || uint64(stop)-uint64(x) > uint64(step) {
				t.Errorf("Stop(%d, %d) = %d", x, step, stop)
			}
			want, wantErr := unit.Sum(stop, step)
			if next, e := unit.Stop(stop, step); next != want || e != wantErr {
				t.Errorf("Stop(%d, %d) = %d, %d, want %d, %d", stop, step, next, e, want, wantErr)
			}
		}
	}
	if stops == 0 {
		t.Error("no stop was tried")
	}
}
