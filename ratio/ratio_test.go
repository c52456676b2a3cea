package ratio_test

import (
	"math"
	"reflect"
	"slices"
	"testing"

	"trishaw/api"
	"trishaw/ratio"
)

func TestDivisor(t *testing.T) {
	for _, c := range []struct {
		list []int
		want int
	}{
		{nil, 0}, {[]int{0}, 0}, {[]int{0, 0}, 0}, {[]int{7}, 7}, {[]int{0, 7}, 7}, {[]int{7, 0, 0}, 7},
		{[]int{4, 6}, 2}, {[]int{6, 4}, 2}, {[]int{5, 9}, 1}, {[]int{6, 10, 15}, 1}, {[]int{12, 0, 18, 30}, 6},
		{[]int{math.MaxInt, math.MaxInt}, math.MaxInt}, {[]int{math.MaxInt, math.MaxInt - 1}, 1},
		{[]int{-7}, 7}, {[]int{0, -7}, 7}, {[]int{-12, 0, 18, -30}, 6}, {[]int{-math.MaxInt}, math.MaxInt},
	} {
		before := slices.Clone(c.list)
		if got := ratio.Divisor(c.list...); got != c.want || !slices.Equal(c.list, before) {
			t.Error(before, got, c.want, c.list)
		}
	}
	for a := range 40 {
		for b := range 40 {
			want := max(a, b)
			for want > 0 && (a%want != 0 || b%want != 0) {
				want--
			}
			for _, two := range [][]int{{a, b}, {-a, b}, {a, -b}, {-a, -b}} {
				if got := ratio.Divisor(two...); got != want {
					t.Error(two, got, want)
				}
			}
		}
	}
}

func TestLowest(t *testing.T) {
	for _, c := range []struct{ num, den, a, b int }{
		{0, 1, 0, 1}, {0, 9, 0, 1}, {3, 1, 3, 1}, {2, 4, 1, 2}, {6, 4, 3, 2}, {9, 9, 1, 1}, {7, 9, 7, 9}, {math.MaxInt, math.MaxInt, 1, 1},
		{-3, 1, -3, 1}, {-2, 4, -1, 2}, {-6, 4, -3, 2}, {-9, 9, -1, 1}, {-7, 9, -7, 9},
	} {
		if got := ratio.Lowest(c.num, c.den); got != (api.Ratio{Num: c.a, Den: c.b}) {
			t.Error(c, got)
		}
	}
}

func TestParts(t *testing.T) {
	for _, c := range []struct {
		nums []int
		den  int
		want api.Parts
	}{
		{[]int{}, 7, api.Parts{Nums: []int{}, Den: 1}},
		{[]int{0, 0}, 7, api.Parts{Nums: []int{0, 0}, Den: 1}},
		{[]int{2, 3}, 4, api.Parts{Nums: []int{2, 3}, Den: 4}},
		{[]int{2, 4}, 6, api.Parts{Nums: []int{1, 2}, Den: 3}},
		{[]int{2, 4}, 3, api.Parts{Nums: []int{2, 4}, Den: 3}},
		{[]int{-9, 6, 0}, 3, api.Parts{Nums: []int{-3, 2, 0}, Den: 1}},
		{[]int{-9, -6}, 12, api.Parts{Nums: []int{-3, -2}, Den: 4}},
	} {
		before := slices.Clone(c.nums)
		got := ratio.Parts(c.nums, c.den)
		if !reflect.DeepEqual(got, c.want) {
			t.Error(c, got)
		}
		for i := range got.Nums {
			got.Nums[i] = 99
		}
		if !slices.Equal(c.nums, before) {
			t.Error("changed", before, c.nums)
		}
	}
}

func TestAreParts(t *testing.T) {
	for _, c := range []struct {
		parts             api.Parts
		many, least, most int
		want              bool
	}{
		{api.Parts{Nums: []int{1, 2}, Den: 3}, 2, 0, 1, true},
		{api.Parts{Nums: []int{1, 2}, Den: 3}, 1, 0, 1, false},
		{api.Parts{Nums: []int{1, 2}, Den: 3}, 3, 0, 1, false},
		{api.Parts{Nums: []int{0, 3}, Den: 3}, 2, 0, 1, false},
		{api.Parts{Nums: []int{1, 3}, Den: 3}, 2, 0, 1, true},
		{api.Parts{Nums: []int{1, 4}, Den: 3}, 2, 0, 1, false},
		{api.Parts{Nums: []int{1, 4}, Den: 3}, 2, 0, 2, true},
		{api.Parts{Nums: []int{-1, 1}, Den: 3}, 2, 0, 1, false},
		{api.Parts{Nums: []int{-6, 1}, Den: 3}, 2, -2, 1, true},
		{api.Parts{Nums: []int{-7, 1}, Den: 3}, 2, -2, 1, false},
		{api.Parts{Nums: []int{-2, 4}, Den: 6}, 2, -2, 1, false},
		{api.Parts{Nums: []int{0, 0}, Den: 1}, 2, 0, 0, true},
		{api.Parts{Nums: []int{0, 0}, Den: 2}, 2, 0, 0, false},
		{api.Parts{Nums: []int{0, 0}, Den: 0}, 2, 0, 0, false},
		{api.Parts{Nums: []int{1, 1}, Den: -2}, 2, -1, 1, false},
		{api.Parts{Nums: []int{1, 1}, Den: api.MaxPart}, 2, 0, 1, true},
		{api.Parts{Nums: []int{1, 1}, Den: api.MaxPart + 1}, 2, 0, 1, false},
		{api.Parts{Nums: []int{math.MinInt, 1}, Den: 1}, 2, -5000, 5000, false},
		{api.Parts{Nums: []int{1, math.MaxInt}, Den: math.MaxInt}, 2, -5000, 5000, false},
	} {
		if got := ratio.AreParts(c.parts, c.many, c.least, c.most); got != c.want {
			t.Error(c, got)
		}
	}
}
