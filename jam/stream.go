package jam

import (
	"slices"

	"trishaw/api"
	"trishaw/ratio"
)

// level returns the time, as num / den, that lanes take if all of them take the same, where parts may be below 0 too.
func level(lanes []api.Lane) (num, den int) {
	whole := 1
	for _, l := range lanes {
		whole *= l.B
	}
	// The parts (time - A) / B sum to 1; times whole, all of this is whole.
	num = whole
	for _, l := range lanes {
		num += l.A * (whole / l.B)
		den += whole / l.B
	}
	return num, den
}

// balance returns the parts that are in balance, and the time that the lanes with a part above 0 take.
func balance(lanes []api.Lane) (api.Parts, api.Ratio) {
	used := lanes
	num, den := level(used)
	slow := func(l api.Lane) bool { return l.A*den >= num }
	// A slow lane has no part above 0, and without it the time is no greater: what is slow once stays slow.
	for slices.ContainsFunc(used, slow) {
		used = slices.DeleteFunc(slices.Clone(used), slow)
		num, den = level(used)
	}
	nums := make([]int, len(lanes))
	for i, l := range lanes {
		// For a used lane num - A den is the sum of whole and of (A' - A) whole / B' over the others; B divides each of these.
		nums[i] = max(0, num-l.A*den) / l.B
	}
	return ratio.Parts(nums, den), ratio.Lowest(num, den)
}

// delay returns the delay of parts.
func delay(lanes []api.Lane, parts api.Parts) api.Ratio {
	return ratio.Lowest(total(parallel(lanes, parts.Den), parts.Nums), parts.Den*parts.Den)
}

// inBalance reports whether no lane takes less time than one with a part above 0.
func inBalance(lanes []api.Lane, parts api.Parts) bool {
	roads := parallel(lanes, parts.Den)
	least := roads[0].pays(parts.Nums[0])
	for i, r := range roads {
		least = min(least, r.pays(parts.Nums[i]))
	}
	for i, r := range roads {
		if parts.Nums[i] > 0 && r.pays(parts.Nums[i]) > least {
			return false
		}
	}
	return true
}

// marginal returns lanes on which each piece of a stream also pays for the time that it costs the others.
func marginal(lanes []api.Lane) []api.Lane {
	list := slices.Clone(lanes)
	for i := range list {
		list[i].B *= 2
	}
	return list
}
