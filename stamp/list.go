package stamp

import (
	"iter"
	"slices"
)

// lists yields all ascending lists of at most h stamps, each with the amount that it pays: those with fewer stamps first, of those with as many the lexicographically greater ones first, all in the same memory.
func lists(h int, values []int) iter.Seq2[[]int, int] {
	return func(yield func([]int, int) bool) {
		ticket := make([]int, 0, h)
		for many := range h + 1 {
			if !extend(ticket, 0, many, values, yield) {
				return
			}
		}
	}
}

// extend yields a list with many stamps more, in all ways; false if nobody asks for another one.
func extend(list []int, paid, many int, values []int, yield func([]int, int) bool) bool {
	if many == 0 {
		return yield(list, paid)
	}
	for i, v := range slices.Backward(values) {
		if !extend(append(list, v), paid+v, many-1, values[i:], yield) {
			return false
		}
	}
	return true
}

// letters counts, for each amount from 0 to h times the greatest value, the lists of at most h stamps that pay it.
func letters(h int, values ...int) []int {
	ways := make([]int, h*slices.Max(values)+1)
	for _, paid := range lists(h, values) {
		ways[paid]++
	}
	return ways
}

// reach returns the range of values.
func reach(h int, values ...int) int {
	ways := letters(h, values...)
	if hole := slices.Index(ways, 0); hole >= 0 {
		return hole - 1
	}
	return len(ways) - 1
}

// greatestFirst reports whether at most h stamps pay an amount if each has the greatest value that fits.
func greatestFirst(h int, values []int, amount int) bool {
	used := 0
	for _, v := range slices.Backward(values) {
		used += amount / v
		amount %= v
	}
	return amount == 0 && used <= h
}

// best returns, of the lists of k values that begin with these, the first one with the greatest range, and this range.
func best(h, k int, values []int) ([]int, int) {
	n := reach(h, values...)
	if len(values) == k {
		return slices.Clone(values), n
	}
	var list []int
	most := 0
	// With a value further up the range stays n, and with n + 1 in its place it would be greater.
	for v := slices.Max(values) + 1; v <= n+1; v++ {
		if l, m := best(h, k, append(values, v)); m > most {
			list, most = l, m
		}
	}
	return list, most
}
