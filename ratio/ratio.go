// Package ratio brings the numbers of all layers to lowest terms.
package ratio

import (
	"slices"

	"trishaw/api"
)

// Divisor returns the greatest common divisor of numbers, each above the least int; 0 if none is other than 0.
func Divisor(list ...int) int {
	common := 0
	for _, x := range list {
		for x != 0 {
			common, x = x, common%x
		}
	}
	return max(common, -common)
}

// Lowest returns num / den in lowest terms, for den above 0.
func Lowest(num, den int) api.Ratio {
	d := Divisor(num, den)
	return api.Ratio{Num: num / d, Den: den / d}
}

// Parts returns the numbers nums[i] / den without a common divisor, for den above 0.
func Parts(nums []int, den int) api.Parts {
	d := Divisor(den, Divisor(nums...))
	lowest := make([]int, len(nums))
	for i, x := range nums {
		lowest[i] = x / d
	}
	return api.Parts{Nums: lowest, Den: den / d}
}

// AreParts reports whether parts are so many numbers, each from least to most, with no greater Den than is allowed and without a common divisor.
func AreParts(parts api.Parts, many, least, most int) bool {
	if len(parts.Nums) != many || parts.Den < 1 || parts.Den > api.MaxPart {
		return false
	}
	outside := func(x int) bool { return x < least*parts.Den || x > most*parts.Den }
	return !slices.ContainsFunc(parts.Nums, outside) && Divisor(parts.Den, Divisor(parts.Nums...)) == 1
}
