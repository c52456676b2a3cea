package shift_test

import (
	"fmt"
	"math/rand"
	"slices"
	"testing"

	"trishaw/api"
	"trishaw/shift"
)

func least(t *testing.T, d day) int {
	t.Helper()
	size, e := shift.Least(d.needs, d.long)
	if e != api.OK {
		t.Fatal("Least", d, e)
	}
	return size
}

func share(t *testing.T, d day) api.Ratio {
	t.Helper()
	r, e := shift.Share(d.needs, d.long)
	if e != api.OK {
		t.Fatal("Share", d, e)
	}
	return r
}

func worth(t *testing.T, d day, proof []int) int {
	t.Helper()
	w, e := shift.Worth(d.needs, d.long, proof)
	if e != api.OK {
		t.Fatal("Worth", d, proof, e)
	}
	return w
}

// enoughPlan returns a plan that is enough, at random.
func enoughPlan(r *rand.Rand, d day) []int {
	plan := make([]int, len(d.needs))
	for !slowEnough(d, plan) {
		short := slices.IndexFunc(slowSpare(d, plan), func(x int) bool { return x < 0 })
		start := short - r.Intn(d.long)
		plan[(start+len(plan))%len(plan)]++
	}
	return plan
}

func TestP7_6(t *testing.T) {
	r := rand.New(rand.NewSource(6))
	equal := 0
	for _, d := range someDays(1000) {
		plan := enoughPlan(r, d)
		size, ok, e := shift.Enough(d.needs, d.long, plan)
		if e != api.OK || !ok || size < least(t, d) {
			t.Error("Enough", d, plan, size, ok, e)
		}
		for range 5 {
			proof := make([]int, 1+r.Intn(len(d.needs)))
			for k := range proof {
				proof[k] = r.Intn(len(d.needs))
			}
			w := worth(t, d, proof)
			if w > least(t, d) {
				t.Error("Worth", d, proof, w)
			}
			if w == least(t, d) {
				equal++
			}
		}
		if least(t, d) > 0 {
			proof, e := shift.Proof(d.needs, d.long)
			same(t, fmt.Sprint("Proof ", d, proof), list(worth(t, d, proof), e), list(least(t, d), api.OK))
		}
	}
	if equal < 100 {
		t.Error("too few proofs of Least:", equal)
	}
}

func TestP7_7(t *testing.T) {
	rounded := 0
	for _, d := range someDays(3000) {
		r := share(t, d)
		same(t, fmt.Sprint("Least ", d), list(least(t, d)), list((r.Num+r.Den-1)/r.Den))
		if r.Den > 1 {
			rounded++
		}
	}
	if rounded < 200 {
		t.Error("too few days on which Share is rounded up:", rounded)
	}
}

func TestP7_8(t *testing.T) {
	for _, d := range someDays(3000) {
		size, top := slowSize(d.needs), slices.Max(d.needs)
		if n := least(t, d); n < top || n*d.long < size {
			t.Error("Least", d, n)
		}
		same(t, fmt.Sprint("Least with long shifts ", d), list(least(t, day{d.needs, len(d.needs)})), list(top))
		same(t, fmt.Sprint("Least with short shifts ", d), list(least(t, day{d.needs, 1})), list(size))
	}
}

func TestP7_9(t *testing.T) {
	for _, d := range someDays(200) {
		n := least(t, d)
		for size := range api.MaxPlan + 1 {
			plan, e := shift.With(d.needs, d.long, size)
			if size < n {
				results("With", plan, e).refused(t, list(d, size), api.ErrPlan)
			} else if e != api.OK || slowSize(plan) != size || !slowEnough(d, plan) || slices.Min(plan) < 0 {
				t.Error("With", d, size, plan, e)
			}
		}
	}
	for _, d := range someDays(1500) {
		for k := range d.needs {
			if d.needs[k] == api.MaxNeed {
				continue
			}
			greater := slices.Clone(d.needs)
			greater[k]++
			if a, b := least(t, d), least(t, day{greater, d.long}); b < a || b > a+1 {
				t.Error("Least with a greater need", d, k, a, b)
			}
		}
		if d.long < len(d.needs) && least(t, day{d.needs, d.long + 1}) > least(t, d) {
			t.Error("Least with longer shifts", d)
		}
	}
}

func TestP7_10(t *testing.T) {
	for _, d := range someDays(1000) {
		back := backwards(d)
		same(t, fmt.Sprint("backwards ", d), list(least(t, back), share(t, back)), list(least(t, d), share(t, d)))
		for by := range d.needs {
			needs, e := shift.Turned(d.needs, by)
			turned := day{needs, d.long}
			same(t, fmt.Sprint("turned ", d, by), list(least(t, turned), share(t, turned), e), list(least(t, d), share(t, d), api.OK))
		}
	}
}

// odd returns an int that is often at or beyond a limit.
func odd(r *rand.Rand) int {
	some := []int{-1 << 63, -601, -1, 0, 1, 2, 11, 12, 13, 49, 50, 51, 60, 599, 600, 601, 1<<62 + 1, 1<<63 - 1}
	return some[r.Intn(len(some))]
}

// odds returns a list of so many such numbers.
func odds(r *rand.Rand, many int) []int {
	var list []int
	for range many {
		list = append(list, odd(r))
	}
	return list
}

// P1 and P2: whatever the arguments are, each call ends, changes none of them, and returns the same once more; an error comes alone.
func TestAnyArguments(t *testing.T) {
	r := rand.New(rand.NewSource(7))
	for range 4000 {
		d := randomDay(r, 1+r.Intn(13), 50)
		n := len(d.needs)
		m := more{r.Perm(n), r.Perm(n), r.Intn(601), r.Intn(100) - 50}
		switch r.Intn(6) {
		case 0:
			m = more{odds(r, n+r.Intn(2)), odds(r, r.Intn(3)), odd(r), odd(r)}
		case 1:
			d.long = odd(r)
		case 2:
			d.needs[r.Intn(n)] = odd(r)
		case 3:
			d.needs = odds(r, r.Intn(14))
		}
		before := fmt.Sprint(d, m)
		first, second := calls(d, m), calls(d, m)
		if fmt.Sprint(first) != fmt.Sprint(second) || fmt.Sprint(d, m) != before {
			t.Fatal("not the same again:", before, first, second)
		}
		for _, c := range first {
			if c.errno() != api.OK && !c.alone() {
				t.Fatal("beside an error:", c)
			}
		}
	}
}

// Rule 4: results are new memory.
func TestMemory(t *testing.T) {
	for _, by := range []int{0, 2} {
		needs := []int{3, 1, 4, 1, 5, 99}
		d := day{needs[:5], 3}
		m := more{[]int{1, 2, 3, 4, 5}, []int{4, 2, 0}, 9, by}
		before := fmt.Sprint(calls(d, m))
		for range 2 {
			a, _ := shift.Plan(d.needs, d.long)
			b, _ := shift.With(d.needs, d.long, m.size)
			c, _ := shift.Proof(d.needs, d.long)
			e, _ := shift.Spare(d.needs, d.long, m.plan)
			f, _ := shift.Turned(d.needs, m.by)
			all := [][]int{a, b, c, e, f}
			for k, l := range all {
				if len(l) == 0 {
					t.Fatal("an empty list:", all)
				}
				for i := range l {
					l[i] = 90 + k
				}
				_ = append(l, 77)
			}
			for k, l := range all {
				same(t, "a list", list(l), list(slices.Repeat([]int{90 + k}, len(l))))
			}
			same(t, "all results", list(fmt.Sprint(calls(d, m))), list(before))
			same(t, "the arguments", list(needs, m), list([]int{3, 1, 4, 1, 5, 99}, more{[]int{1, 2, 3, 4, 5}, []int{4, 2, 0}, 9, by}))
		}
	}
}
