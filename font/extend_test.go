package font

import "testing"

// P5.2: a sum that is greater than 2^62 is 2^62. A text that is so long takes more memory than a test should.
func TestExtend(t *testing.T) {
	const most = 8 << 30
	for _, x := range [][3]int64{
		{0, 0, 0}, {0, most, most}, {most, most, 2 * most}, {7, 5, 12},
		{longest - most - 1, most, longest - 1}, {longest - most, most, longest}, {longest - most + 1, most, longest},
		{longest - 1, 0, longest - 1}, {longest - 1, 1, longest}, {longest - 1, 2, longest}, {longest, 0, longest}, {longest, 1, longest}, {longest, most, longest},
	} {
		if got := extend(x[0], x[1]); got != x[2] {
			t.Errorf("extend(%d, %d) = %d, want %d", x[0], x[1], got, x[2])
		}
	}
	if longest != 1<<62 {
		t.Error(longest)
	}
}
