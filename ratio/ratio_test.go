package ratio_test

import (
	"math"
	"testing"

	"trishaw/api"
	"trishaw/ratio"
)

func TestDivisor(t *testing.T) {
	for _, c := range []struct {
		list []int
		want int
	}{
		{nil, 0}, {[]int{0}, 0}, {[]int{0, 0}, 0}, {[]int{7}, 7}, {[]int{0, 7}, 7}, {[]int{7, 0, 0}, 7},
		{[]int{4, 6}, 2}, {[]int{6, 4}, 2}, {[]int{5, 9}, 1}, {[]int{6, 10, 15}, 1}, {[]int{12, 0, 18, 30}, 6},
		{[]int{math.MaxInt, math.MaxInt}, math.MaxInt}, {[]int{math.MaxInt, math.MaxInt - 1}, 1},
	} {
		if got := ratio.Divisor(c.list...); got != c.want {
			t.Error(c.list, got, c.want)
		}
	}
	for a := range 40 {
		for b := range 40 {
			want := max(a, b)
			for want > 0 && (a%want != 0 || b%want != 0) {
				want--
			}
			if got := ratio.Divisor(a, b); got != want {
				t.Error(a, b, got, want)
			}
		}
	}
}

func TestLowest(t *testing.T) {
	for _, c := range []struct{ num, den, a, b int }{
		{0, 1, 0, 1}, {0, 9, 0, 1}, {3, 1, 3, 1}, {2, 4, 1, 2}, {6, 4, 3, 2}, {9, 9, 1, 1}, {7, 9, 7, 9}, {math.MaxInt, math.MaxInt, 1, 1},
	} {
		if got := ratio.Lowest(c.num, c.den); got != (api.Ratio{Num: c.a, Den: c.b}) {
			t.Error(c, got)
		}
	}
}
