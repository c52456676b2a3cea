package shift_test

import (
	"fmt"
	"math"
	"math/rand"
	"reflect"
	"slices"
	"testing"

	"trishaw/api"
	"trishaw/shift"
)

func list(x ...any) []any { return x }

// same compares what a call returned, its error last, with what is expected; an empty list may be nil.
func same(t *testing.T, what string, got, want []any) {
	t.Helper()
	if fmt.Sprint(got) != fmt.Sprint(want) {
		t.Errorf("%s: got %v, want %v", what, got, want)
	}
}

// call is a call of a function: its name, and what it returned, its error last.
type call struct {
	name   string
	result []any
}

func (c call) errno() api.Errno { return c.result[len(c.result)-1].(api.Errno) }

// alone reports whether nothing is beside the error.
func (c call) alone() bool {
	return !slices.ContainsFunc(c.result[:len(c.result)-1], func(x any) bool {
		v := reflect.ValueOf(x)
		return !v.IsZero() && !(v.Kind() == reflect.Slice && v.Len() == 0)
	})
}

func (c call) refused(t *testing.T, what any, want api.Errno) {
	t.Helper()
	if c.errno() != want || !c.alone() {
		t.Errorf("%s %v: got %v, want error %d alone", c.name, what, c.result, want)
	}
}

func results(name string, result ...any) call { return call{name, result} }

// more is the arguments that only some functions have.
type more struct {
	plan, proof []int
	size, by    int
}

// longCalls calls all functions that are told how long a shift is.
func longCalls(d day, m more) []call {
	a, b, e1 := shift.Enough(d.needs, d.long, m.plan)
	c, e2 := shift.Least(d.needs, d.long)
	f, e3 := shift.Plan(d.needs, d.long)
	g, e4 := shift.With(d.needs, d.long, m.size)
	h, e5 := shift.Proof(d.needs, d.long)
	i, e6 := shift.Worth(d.needs, d.long, m.proof)
	j, e7 := shift.Share(d.needs, d.long)
	k, e8 := shift.Spare(d.needs, d.long, m.plan)
	return []call{
		results("Enough", a, b, e1), results("Least", c, e2), results("Plan", f, e3), results("With", g, e4),
		results("Proof", h, e5), results("Worth", i, e6), results("Share", j, e7), results("Spare", k, e8),
	}
}

func calls(d day, m more) []call {
	a, e := shift.Turned(d.needs, m.by)
	return append(longCalls(d, m), results("Turned", a, e))
}

// someMore are arguments that are right for some days, and others that never are.
func someMore() []more {
	return []more{{}, {[]int{1}, []int{0}, 1, 1}, {[]int{1, 2, 3}, []int{2, 2}, 600, -1}, {[]int{-1}, []int{-1}, -1, math.MinInt}, {make([]int, 100), make([]int, 100), math.MaxInt, math.MaxInt}}
}

// First too many needs, whatever they are and whatever comes after them; then none, or a need out of its limits.
func TestNeedsErrors(t *testing.T) {
	for _, long := range []int{math.MinInt, -1, 0, 1, 2, 12, 13, math.MaxInt} {
		for _, m := range someMore() {
			for _, needs := range [][]int{make([]int, 13), make([]int, 1000), slices.Repeat([]int{-1}, 13), slices.Repeat([]int{51}, 14)} {
				for _, c := range calls(day{needs, long}, m) {
					c.refused(t, list(needs, long, m), api.ErrLimit)
				}
			}
			for _, needs := range [][]int{nil, {}, {-1}, {51}, {math.MinInt}, {math.MaxInt}, {0, 51}, {-1, 0}} {
				for _, c := range calls(day{needs, long}, m) {
					c.refused(t, list(needs, long, m), api.ErrArg)
				}
			}
		}
	}
	for hours := 1; hours <= api.MaxHours; hours++ {
		for k := range hours {
			for _, bad := range []int{-1, 51} {
				needs := slices.Repeat([]int{50}, hours)
				needs[k] = bad
				for _, c := range calls(day{needs, 1}, more{size: 600}) {
					c.refused(t, needs, api.ErrArg)
				}
			}
		}
	}
}

// Then how long a shift is, before a plan, a size or a proof, and before there is none; it plays no part for Turned.
func TestLongErrors(t *testing.T) {
	for hours := 1; hours <= api.MaxHours; hours++ {
		for _, long := range []int{math.MinInt, -1, 0, hours + 1, 100, math.MaxInt} {
			for _, need := range []int{0, 50} {
				d := day{slices.Repeat([]int{need}, hours), long}
				good := more{make([]int, hours), []int{0}, 600, 1}
				for _, m := range append(someMore(), good) {
					for _, c := range longCalls(d, m) {
						c.refused(t, list(d, m), api.ErrArg)
					}
					needs, e := shift.Turned(d.needs, m.by)
					same(t, fmt.Sprint("Turned ", d, m), list(needs, e), list(d.needs, api.OK))
				}
			}
		}
	}
}

// Days of the least and greatest size are days.
func TestLimits(t *testing.T) {
	one := day{[]int{0}, 1}
	same(t, "one hour without needs", list(calls(one, more{[]int{600}, make([]int, 60), 600, 5})), list([]call{
		results("Enough", 600, true, api.OK), results("Least", 0, api.OK), results("Plan", []int{0}, api.OK), results("With", []int{600}, api.OK),
		results("Proof", []int{}, api.ErrPlan), results("Worth", 0, api.OK), results("Share", api.Ratio{Num: 0, Den: 1}, api.OK),
		results("Spare", []int{600}, api.OK), results("Turned", []int{0}, api.OK),
	}))
	full := slices.Repeat([]int{50}, 12)
	all := []int{0, 1, 2, 3, 4, 5, 6, 7, 8, 9, 10, 11}
	same(t, "twelve hours, short shifts", list(calls(day{full, 1}, more{slices.Repeat([]int{600}, 12), slices.Repeat(all, 5), 600, 12})), list([]call{
		results("Enough", 7200, true, api.OK), results("Least", 600, api.OK), results("Plan", full, api.OK), results("With", full, api.OK),
		results("Proof", all, api.OK), results("Worth", 600, api.OK), results("Share", api.Ratio{Num: 600, Den: 1}, api.OK),
		results("Spare", slices.Repeat([]int{550}, 12), api.OK), results("Turned", full, api.OK),
	}))
	last := make([]int, 12)
	last[11] = 50
	long := calls(day{full, 12}, more{last, []int{11}, 49, -12})
	proof := long[4].result[0].([]int)
	same(t, "twelve hours, long shifts", list(long), list([]call{
		results("Enough", 50, true, api.OK), results("Least", 50, api.OK), results("Plan", last, api.OK), results("With", []int{}, api.ErrPlan),
		results("Proof", proof, api.OK), results("Worth", 50, api.OK), results("Share", api.Ratio{Num: 50, Den: 1}, api.OK),
		results("Spare", make([]int, 12), api.OK), results("Turned", full, api.OK),
	}))
	same(t, "its proof", list(len(proof) > 0, slowWorth(day{full, 12}, proof)), list(true, 50))
}

func TestExamples(t *testing.T) {
	for _, c := range []struct {
		d     day
		least int
		plan  []int
		share api.Ratio
	}{
		{day{[]int{1, 1, 1}, 2}, 2, []int{0, 1, 1}, api.Ratio{Num: 3, Den: 2}},
		{day{[]int{2, 0, 3}, 1}, 5, []int{2, 0, 3}, api.Ratio{Num: 5, Den: 1}},
		{day{[]int{1, 2, 3, 2}, 3}, 3, []int{0, 2, 1, 0}, api.Ratio{Num: 3, Den: 1}},
	} {
		least, e := shift.Least(c.d.needs, c.d.long)
		plan, f := shift.Plan(c.d.needs, c.d.long)
		share, g := shift.Share(c.d.needs, c.d.long)
		same(t, fmt.Sprint("the example ", c.d), list(least, plan, share, e, f, g), list(c.least, c.plan, c.share, api.OK, api.OK, api.OK))
	}
	worth, e := shift.Worth([]int{1, 1, 1}, 2, []int{0, 1, 2})
	same(t, "the proof of the first example", list(worth, e), list(2, api.OK))
}

func TestP7_1(t *testing.T) {
	r := rand.New(rand.NewSource(3))
	yes, no := 0, 0
	for _, d := range someDays(3000) {
		plan, most := make([]int, len(d.needs)), slices.Max(d.needs)
		for h := range plan {
			plan[h] = r.Intn(2 + []int{599, 2 * most / d.long, most / d.long}[r.Intn(3)])
		}
		size, ok, e := shift.Enough(d.needs, d.long, plan)
		same(t, fmt.Sprint("Enough ", d, plan), list(size, ok, e), list(slowSize(plan), slowEnough(d, plan), api.OK))
		spare, e := shift.Spare(d.needs, d.long, plan)
		same(t, fmt.Sprint("Spare ", d, plan), list(spare, e), list(slowSpare(d, plan), api.OK))
		if ok {
			yes++
		} else {
			no++
		}
	}
	if yes < 500 || no < 500 {
		t.Error("too few plans that are enough, or that are not:", yes, no)
	}
	// After the last hour comes the hour 0 again; a plan that is not enough has a size as well.
	d := day{[]int{1, 2, 3, 0}, 3}
	for _, c := range []struct {
		plan  []int
		ok    bool
		spare []int
	}{
		{[]int{0, 0, 0, 3}, false, []int{2, 1, -3, 3}}, {[]int{0, 0, 3, 0}, false, []int{2, -2, 0, 3}},
		{[]int{2, 0, 1, 0}, true, []int{2, 0, 0, 1}}, {[]int{0, 0, 0, 0}, false, []int{-1, -2, -3, 0}},
	} {
		size, ok, e := shift.Enough(d.needs, d.long, c.plan)
		same(t, fmt.Sprint("Enough ", c.plan), list(size, ok, e), list(slowSize(c.plan), c.ok, api.OK))
		spare, e := shift.Spare(d.needs, d.long, c.plan)
		same(t, fmt.Sprint("Spare ", c.plan), list(spare, e), list(c.spare, api.OK))
	}
}

// What is no plan, or one for another number of hours, is no error of Enough, but one of Spare.
func TestP7_1NoPlan(t *testing.T) {
	for hours := 1; hours <= api.MaxHours; hours++ {
		d := day{make([]int, hours), hours}
		plans := [][]int{nil, {}, make([]int, hours-1), make([]int, hours+1), make([]int, 1000)}
		for k := range hours {
			for _, bad := range []int{math.MinInt, -1, 601, math.MaxInt} {
				plan := slices.Repeat([]int{600}, hours)
				plan[k] = bad
				plans = append(plans, plan)
			}
		}
		for _, plan := range plans {
			size, ok, e := shift.Enough(d.needs, d.long, plan)
			same(t, fmt.Sprint("Enough ", d, plan), list(size, ok, e), list(0, false, api.OK))
			spare, e := shift.Spare(d.needs, d.long, plan)
			results("Spare", spare, e).refused(t, list(d, plan), api.ErrArg)
		}
	}
}

func TestP7_2(t *testing.T) {
	for _, d := range smallDays(600) {
		want := slowPlan(d)
		least := slowSize(want)
		size, e := shift.Least(d.needs, d.long)
		same(t, fmt.Sprint("Least ", d), list(size, e), list(least, api.OK))
		plan, e := shift.Plan(d.needs, d.long)
		same(t, fmt.Sprint("Plan ", d), list(plan, e), list(want, api.OK))
		for size := range least {
			plan, e := shift.With(d.needs, d.long, size)
			results("With", plan, e).refused(t, list(d, size), api.ErrPlan)
		}
		for size := least; size < least+4; size++ {
			plan, e := shift.With(d.needs, d.long, size)
			same(t, fmt.Sprint("With ", d, size), list(plan, e), list(slowWith(d, size), api.OK))
		}
	}
}

// Large days: Plan has the size Least and is enough, but no longer if one driver begins in a later hour instead.
func TestP7_2Large(t *testing.T) {
	for _, d := range someDays(2000) {
		least, e := shift.Least(d.needs, d.long)
		plan, f := shift.Plan(d.needs, d.long)
		with, g := shift.With(d.needs, d.long, least)
		same(t, fmt.Sprint("Plan ", d), list(with, slowSize(plan), slowEnough(d, plan), e, f, g), list(plan, least, true, api.OK, api.OK, api.OK))
		for early := range plan {
			for late := range plan[early+1:] {
				other := slices.Clone(plan)
				other[early]--
				other[early+1+late]++
				if plan[early] > 0 && slowEnough(d, other) {
					t.Error("Plan", d, plan, "is above", other)
				}
			}
		}
	}
}

// Needs and sizes that are multiples have multiples as plans, which are known for the small ones.
func TestP7_2Times(t *testing.T) {
	for _, d := range smallDays(400) {
		least := slowSize(slowPlan(d))
		by := api.MaxNeed / max(1, slices.Max(d.needs))
		times := func(list []int) []int {
			list = slices.Clone(list)
			for k := range list {
				list[k] *= by
			}
			return list
		}
		for size := least; size < least+3 && size*by <= api.MaxPlan; size++ {
			plan, e := shift.With(times(d.needs), d.long, size*by)
			same(t, fmt.Sprint("With ", d, size, by), list(plan, e), list(times(slowWith(d, size)), api.OK))
		}
	}
}

// Without needs all drivers begin in the last hour, if there are any.
func TestP7_2NoNeeds(t *testing.T) {
	for hours := 1; hours <= api.MaxHours; hours++ {
		for long := 1; long <= hours; long++ {
			plan := make([]int, hours)
			least, e := shift.Least(plan, long)
			first, f := shift.Plan(plan, long)
			same(t, fmt.Sprint("no needs ", hours, long), list(least, first, e, f), list(0, plan, api.OK, api.OK))
			for _, size := range []int{0, 1, 599, 600} {
				want := make([]int, hours)
				want[hours-1] = size
				with, e := shift.With(plan, long, size)
				same(t, fmt.Sprint("With ", hours, long, size), list(with, e), list(want, api.OK))
			}
		}
	}
}

func TestP7_2Errors(t *testing.T) {
	for hours := 1; hours <= api.MaxHours; hours++ {
		for _, need := range []int{0, 50} {
			for _, size := range []int{math.MinInt, -1, 601, math.MaxInt} {
				plan, e := shift.With(slices.Repeat([]int{need}, hours), 1, size)
				results("With", plan, e).refused(t, list(hours, need, size), api.ErrArg)
			}
		}
	}
}

func TestP7_3(t *testing.T) {
	r := rand.New(rand.NewSource(4))
	for _, d := range someDays(3000) {
		proof := make([]int, 1+r.Intn([]int{3, 12, 60}[r.Intn(3)]))
		for k := range proof {
			proof[k] = r.Intn(len(d.needs))
		}
		worth, e := shift.Worth(d.needs, d.long, proof)
		same(t, fmt.Sprint("Worth ", d, proof), list(worth, e), list(slowWorth(d, proof), api.OK))
		least, e := shift.Least(d.needs, d.long)
		proof, f := shift.Proof(d.needs, d.long)
		if least == 0 {
			results("Proof", proof, f).refused(t, d, api.ErrPlan)
			continue
		}
		good := len(proof) > 0 && len(proof) <= api.MaxProof && slices.Min(proof) >= 0 && slices.Max(proof) < len(d.needs)
		if e != api.OK || f != api.OK || !good || slowWorth(d, proof) != least {
			t.Error("Proof", d, proof, e, f, least)
		}
	}
	// An hour that is in the proof twice is needed twice and reached twice; what is not whole is rounded up.
	for _, c := range []struct {
		long  int
		proof []int
		worth int
	}{
		{1, []int{0, 0}, 1}, {1, []int{0, 0, 1}, 3}, {2, []int{3, 0}, 5}, {2, []int{3, 0, 0}, 4}, {2, []int{0, 2}, 6}, {3, []int{0, 2}, 3}, {4, []int{1, 1, 1, 1, 1}, 3}, {2, []int{3, 1, 2}, 8},
	} {
		worth, e := shift.Worth([]int{1, 3, 5, 8}, c.long, c.proof)
		want := slowWorth(day{[]int{1, 3, 5, 8}, c.long}, c.proof)
		same(t, fmt.Sprint("Worth ", c), list(worth, e, want), list(c.worth, api.OK, c.worth))
	}
}

func TestP7_3Errors(t *testing.T) {
	for hours := 1; hours <= api.MaxHours; hours++ {
		needs := slices.Repeat([]int{1}, hours)
		for _, proof := range [][]int{nil, {}, make([]int, 61), make([]int, 1000), {-1}, {hours}, {0, hours}, {0, -1, 0}, {math.MinInt}, {math.MaxInt}, append(make([]int, 59), 12)} {
			worth, e := shift.Worth(needs, 1, proof)
			results("Worth", worth, e).refused(t, list(hours, proof), api.ErrArg)
		}
		worth, e := shift.Worth(needs, 1, make([]int, 60))
		same(t, "Worth of the longest proof", list(worth, e), list(1, api.OK))
		proof, e := shift.Proof(make([]int, hours), hours)
		results("Proof", proof, e).refused(t, hours, api.ErrPlan)
	}
}

func TestP7_4(t *testing.T) {
	dens := map[int]int{}
	for _, d := range someDays(3000) {
		share, e := shift.Share(d.needs, d.long)
		same(t, fmt.Sprint("Share ", d), list(share, e), list(slowShare(d), api.OK))
		dens[share.Den]++
	}
	// With the same need in each hour it is that need, times the hours, divided by long.
	for hours := 1; hours <= api.MaxHours; hours++ {
		for long := 1; long <= hours; long++ {
			d := day{slices.Repeat([]int{49}, hours), long}
			share, e := shift.Share(d.needs, d.long)
			same(t, fmt.Sprint("Share ", d), list(share, e), list(slowShare(d), api.OK))
			if share.Num*long != 49*hours*share.Den {
				t.Error("Share", d, share)
			}
			dens[share.Den]++
		}
	}
	for _, den := range []int{1, 2, 3, 4, 5, 6, 8, 9, 10, 11} {
		if dens[den] == 0 {
			t.Error("no day with the denominator", den)
		}
	}
}

func TestP7_5(t *testing.T) {
	r := rand.New(rand.NewSource(5))
	for _, d := range someDays(500) {
		for range 5 {
			by := r.Intn(60) - 30
			needs, e := shift.Turned(d.needs, by)
			same(t, fmt.Sprint("Turned ", d.needs, by), list(needs, e), list(slowTurned(d.needs, by), api.OK))
		}
	}
	for hours := 1; hours <= api.MaxHours; hours++ {
		needs := make([]int, hours)
		for h := range needs {
			needs[h] = h
		}
		for _, by := range []int{math.MinInt, math.MinInt + 1, -hours, -1, 0, 1, hours - 1, hours, math.MaxInt - 1, math.MaxInt} {
			turned, e := shift.Turned(needs, by)
			same(t, fmt.Sprint("Turned ", needs, by), list(turned, e), list(slowTurned(needs, by%hours), api.OK))
		}
	}
	needs, e := shift.Turned([]int{1, 2, 3}, -1)
	same(t, "Turned by -1", list(needs, e), list([]int{3, 1, 2}, api.OK))
}
