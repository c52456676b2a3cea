package shift

import (
	"slices"

	"trishaw/api"
)

// checkNeeds returns the error of needs, or OK.
func checkNeeds(needs []int) api.Errno {
	if len(needs) > api.MaxHours {
		return api.ErrLimit
	}
	if len(needs) == 0 || slices.ContainsFunc(needs, func(x int) bool { return x < 0 || x > api.MaxNeed }) {
		return api.ErrArg
	}
	return api.OK
}

// checkShifts returns the error of needs, then that of how long a shift is.
func checkShifts(needs []int, long int) api.Errno {
	if e := checkNeeds(needs); e != api.OK {
		return e
	}
	if long < 1 || long > len(needs) {
		return api.ErrArg
	}
	return api.OK
}

// isMany reports whether so many drivers can be in a plan.
func isMany(x int) bool { return x >= 0 && x <= api.MaxPlan }

// isPlan reports whether a list is a plan for so many hours.
func isPlan(plan []int, hours int) bool {
	return len(plan) == hours && !slices.ContainsFunc(plan, func(x int) bool { return !isMany(x) })
}

// isProof reports whether a list is a proof for so many hours.
func isProof(proof []int, hours int) bool {
	if len(proof) == 0 || len(proof) > api.MaxProof {
		return false
	}
	return !slices.ContainsFunc(proof, func(h int) bool { return h < 0 || h >= hours })
}
