package branch_test

import (
	"fmt"
	"math"
	"math/rand"
	"reflect"
	"slices"
	"testing"

	"trishaw/api"
	"trishaw/branch"
)

func list(x ...any) []any { return x }

// same compares what a call returned, its error last, with what is expected; an empty list may be nil.
func same(t *testing.T, what string, got, want []any) {
	t.Helper()
	if fmt.Sprint(got) != fmt.Sprint(want) {
		t.Errorf("%s: got %v, want %v", what, got, want)
	}
}

// call is a call of a function: its name, and what it returned, its error last.
type call struct {
	name   string
	result []any
}

func (c call) errno() api.Errno { return c.result[len(c.result)-1].(api.Errno) }

// alone reports whether nothing is beside the error.
func (c call) alone() bool {
	return !slices.ContainsFunc(c.result[:len(c.result)-1], func(x any) bool {
		v := reflect.ValueOf(x)
		return !v.IsZero() && !(v.Kind() == reflect.Slice && v.Len() == 0)
	})
}

// results returns a call with its results.
func results(name string, result ...any) call { return call{name, result} }

// calls calls all functions.
func calls(n int, ways []api.Way, l []int, proof []api.Price, set int) []call {
	a, e1 := branch.Reach(n, ways)
	b1, b2, e2 := branch.Branching(n, ways)
	c1, c2, e3 := branch.Is(n, ways, l)
	d, e4 := branch.Proof(n, ways)
	f1, f2, e5 := branch.Proves(n, ways, proof)
	g, e6 := branch.Count(n, ways)
	h1, h2, e7 := branch.Narrow(n, ways)
	i, e8 := branch.Apart(n, ways)
	j, e9 := branch.Entering(n, ways, set)
	k1, k2, e10 := branch.Dear(n, ways)
	return []call{
		results("Reach", a, e1), results("Branching", b1, b2, e2), results("Is", c1, c2, e3), results("Proof", d, e4),
		results("Proves", f1, f2, e5), results("Count", g, e6), results("Narrow", h1, h2, e7), results("Apart", i, e8),
		results("Entering", j, e9), results("Dear", k1, k2, e10),
	}
}

// refused checks that all functions return an error, and otherwise nothing, whatever the other arguments are.
func refused(t *testing.T, n int, ways []api.Way, want api.Errno) {
	t.Helper()
	for _, l := range [][]int{nil, {0}, {0, 1}, {-1}, make([]int, 100)} {
		for _, proof := range [][]api.Price{nil, {{Set: 2, Worth: 1}}, {{Set: -1, Worth: 0}}} {
			for _, set := range []int{2, 1, -1} {
				for _, c := range calls(n, ways, l, proof, set) {
					if c.errno() != want || !c.alone() {
						t.Errorf("%s %d %v: got %v, want error %d alone", c.name, n, ways, c.result, want)
					}
				}
			}
		}
	}
}

// badWays returns streets that no town of n corners has.
func badWays(n int) []api.Way {
	return []api.Way{
		{A: 1, B: 1, Cost: 1}, {A: 0, B: 0}, {A: -1, B: 1}, {A: 0, B: -1}, {A: n, B: 1}, {A: 0, B: n}, {A: n, B: n},
		{A: 0, B: 1, Cost: -1}, {A: 0, B: 1, Cost: 1001},
		{A: math.MinInt, B: 1}, {A: 0, B: math.MaxInt}, {A: math.MaxInt, B: math.MinInt}, {A: 0, B: 64},
		{A: 0, B: 1, Cost: math.MaxInt}, {A: 0, B: 1, Cost: math.MinInt},
	}
}

// First the number of corners, then that of the streets, then each street.
func TestTownErrors(t *testing.T) {
	good := api.Way{A: 0, B: 1, Cost: 1}
	for _, n := range []int{math.MinInt, -1, 0, 1, 8, 9, 64, math.MaxInt} {
		for _, ways := range [][]api.Way{nil, {good}, {{A: 9, B: 9}}, make([]api.Way, 31), slices.Repeat([]api.Way{good}, 31)} {
			refused(t, n, ways, api.ErrArg)
		}
	}
	for n := 2; n <= 7; n++ {
		for _, ways := range [][]api.Way{make([]api.Way, 31), slices.Repeat([]api.Way{good}, 31), slices.Repeat([]api.Way{good}, 1000)} {
			refused(t, n, ways, api.ErrLimit)
		}
		for _, bad := range badWays(n) {
			refused(t, n, []api.Way{bad}, api.ErrArg)
			refused(t, n, []api.Way{good, bad}, api.ErrArg)
			refused(t, n, append(slices.Repeat([]api.Way{good}, 29), bad), api.ErrArg)
		}
	}
}

// Towns of the least and greatest size, and with the least and greatest numbers, are towns.
func TestTownLimits(t *testing.T) {
	for _, x := range []town{
		{2, []api.Way{{A: 0, B: 1}}},
		{2, []api.Way{{A: 0, B: 1, Cost: 1000}, {A: 1, B: 0, Cost: 1000}}},
		{2, slices.Repeat([]api.Way{{A: 0, B: 1, Cost: 1000}}, 30)},
		fullTown(),
	} {
		for _, c := range calls(x.n, x.ways, nil, nil, 2) {
			same(t, fmt.Sprint(c.name, x), list(c.errno()), list(api.OK))
		}
	}
}

func TestExamples(t *testing.T) {
	x := example()
	l, c, e := branch.Branching(x.n, x.ways)
	same(t, "Branching of the first example", list(l, c, e), list([]int{1, 2}, 3, api.OK))
	worth, ok, e := branch.Proves(x.n, x.ways, []api.Price{{Set: 4, Worth: 1}, {Set: 2, Worth: 2}})
	same(t, "Proves of the first example", list(worth, ok, e), list(3, true, api.OK))
	many, e := branch.Count(x.n, x.ways)
	same(t, "Count of the first example", list(many, e), list(2, api.OK))
	many, set, e := branch.Narrow(x.n, x.ways)
	same(t, "Narrow of the first example", list(many, set, e), list(1, 4, api.OK))
	x = ring()
	l, c, e = branch.Branching(x.n, x.ways)
	same(t, "Branching of the second example", list(l, c, e), list([]int{0, 1}, 2, api.OK))
}

func TestP3_1(t *testing.T) {
	for _, c := range []struct {
		x    town
		want int
	}{
		{example(), 7}, {town{2, nil}, 1}, {town{7, nil}, 1}, {fullTown(), 127},
		{town{3, []api.Way{{A: 1, B: 0}, {A: 1, B: 2}, {A: 2, B: 1}}}, 1},
		{town{4, []api.Way{{A: 3, B: 2}, {A: 2, B: 1}, {A: 0, B: 3}}}, 15},
		{town{4, []api.Way{{A: 2, B: 1}, {A: 0, B: 3}, {A: 1, B: 2}}}, 9},
	} {
		reached, e := branch.Reach(c.x.n, c.x.ways)
		same(t, fmt.Sprint("Reach ", c.x), list(reached, e), list(c.want, api.OK))
	}
	for _, x := range someTowns(60, api.MaxWays) {
		reached, e := branch.Reach(x.n, x.ways)
		same(t, fmt.Sprint("Reach ", x), list(reached, e), list(slowReach(x.ways), api.OK))
		for _, set := range allSets(x.n) {
			l, e := branch.Entering(x.n, x.ways, set)
			same(t, fmt.Sprint("Entering ", x, set), list(l, e), list(slowEntering(x.ways, set), api.OK))
		}
	}
}

func TestP3_1Errors(t *testing.T) {
	for n := 2; n <= 7; n++ {
		for _, set := range []int{0, 1, 3, -1, -2, 1<<n - 1, 1 << n, 1<<n + 2, 1 << 32, 1<<62 + 2, math.MinInt, math.MinInt + 2, math.MaxInt - 1} {
			l, e := branch.Entering(n, []api.Way{{A: 0, B: 1}}, set)
			if c := results("Entering", l, e); e != api.ErrArg || !c.alone() {
				t.Error(n, set, c)
			}
		}
	}
}

func TestP3_2Is(t *testing.T) {
	for _, x := range someTowns(8, 9) {
		all := allBranchings(x.n, x.ways)
		for _, l := range someLists(x.n, len(x.ways)) {
			want := slices.ContainsFunc(all, func(b []int) bool { return slices.Equal(b, l) })
			sum := 0
			if want {
				sum = cost(x.ways, l)
			}
			c, ok, e := branch.Is(x.n, x.ways, l)
			same(t, fmt.Sprint("Is ", x, l), list(c, ok, e), list(sum, want, api.OK))
		}
	}
	x := example()
	for _, l := range [][]int{
		nil, {}, {1}, {2, 1}, {0, 0}, {1, 1}, {0, 2}, {1, 2, 2}, {0, 1, 2}, {-1, 1}, {1, 3}, {0, 3},
		{math.MinInt, 1}, {1, math.MaxInt}, {math.MaxInt, math.MinInt}, make([]int, 1000),
	} {
		c, ok, e := branch.Is(x.n, x.ways, l)
		same(t, fmt.Sprint("Is ", l), list(c, ok, e), list(0, false, api.OK))
	}
}

// someLists returns all ascending lists of n - 1 indices below many, some of them in another order, and others that are no branchings.
func someLists(n, many int) [][]int {
	r := rand.New(rand.NewSource(2))
	lists := [][]int{nil, make([]int, n-1), make([]int, n), {-1}, {many}}
	for chosen := range 1 << many {
		var l []int
		for i := range many {
			if in(chosen, i) {
				l = append(l, i)
			}
		}
		if len(l) != n-1 {
			continue
		}
		lists = append(lists, l)
		if r.Intn(4) == 0 {
			other := slices.Clone(l)
			other[r.Intn(n-1)] = r.Intn(many)
			lists = append(lists, other)
		}
	}
	return lists
}

// best checks Branching and Dear against all branchings.
func best(t *testing.T, x town) {
	t.Helper()
	all := allBranchings(x.n, x.ways)
	want := api.OK
	if len(all) == 0 {
		want = api.ErrPlan
	}
	l, c, e := branch.Branching(x.n, x.ways)
	first, least := slowBest(x.ways, all, false)
	same(t, fmt.Sprint("Branching ", x), list(l, c, e), list(first, least, want))
	l, c, e = branch.Dear(x.n, x.ways)
	first, most := slowBest(x.ways, all, true)
	same(t, fmt.Sprint("Dear ", x), list(l, c, e), list(first, most, want))
}

func TestP3_2(t *testing.T) {
	for _, c := range []struct {
		x           town
		first       []int
		least, most int
		last        []int
	}{
		{example(), []int{1, 2}, 3, 6, []int{0, 1}},
		{ring(), []int{0, 1}, 2, 2, []int{0, 1}},
		{town{4, rings()}, []int{1, 2, 5}, 22, 57, []int{4, 5, 6}},
		{town{2, slices.Repeat([]api.Way{{A: 0, B: 1, Cost: 1000}}, 30)}, []int{0}, 1000, 1000, []int{0}},
		{town{3, slices.Repeat([]api.Way{{A: 1, B: 2}, {A: 0, B: 1}, {A: 0, B: 2}}, 10)}, []int{0, 1}, 0, 0, []int{0, 1}},
		{town{3, []api.Way{{A: 0, B: 1, Cost: 7}, {A: 0, B: 2, Cost: 7}, {A: 1, B: 2, Cost: 7}, {A: 2, B: 1, Cost: 7}}}, []int{0, 1}, 14, 14, []int{0, 1}},
	} {
		l, sum, e := branch.Branching(c.x.n, c.x.ways)
		same(t, fmt.Sprint("Branching ", c.x), list(l, sum, e), list(c.first, c.least, api.OK))
		l, sum, e = branch.Dear(c.x.n, c.x.ways)
		same(t, fmt.Sprint("Dear ", c.x), list(l, sum, e), list(c.last, c.most, api.OK))
	}
	for _, x := range someTowns(300, 14) {
		best(t, x)
	}
	for _, x := range someTowns(12, api.MaxWays) {
		best(t, x)
	}
	best(t, fullTown())
}

// Without a branching there is no cheapest one, no dearest one, and no proof.
func TestP3_2Errors(t *testing.T) {
	for _, x := range []town{
		{2, nil}, {7, nil}, {2, []api.Way{{A: 1, B: 0}}}, {3, []api.Way{{A: 0, B: 1}, {A: 0, B: 1}}},
		{3, []api.Way{{A: 1, B: 2}, {A: 2, B: 1}}}, {4, []api.Way{{A: 0, B: 1}, {A: 2, B: 3}, {A: 3, B: 2}, {A: 3, B: 0}}},
	} {
		for _, c := range calls(x.n, x.ways, nil, nil, 2) {
			want := api.OK
			if slices.Contains([]string{"Branching", "Dear", "Proof"}, c.name) {
				want = api.ErrPlan
			}
			if c.errno() != want || want != api.OK && !c.alone() {
				t.Error(c.name, x, c.result, want)
			}
		}
	}
}

func TestP3_3(t *testing.T) {
	x := example()
	for _, c := range []struct {
		proof []api.Price
		worth int
		ok    bool
	}{
		{nil, 0, true}, {[]api.Price{}, 0, true},
		{[]api.Price{{Set: 4, Worth: 1}, {Set: 2, Worth: 2}}, 3, true},
		{[]api.Price{{Set: 2, Worth: 2}}, 2, true}, {[]api.Price{{Set: 2, Worth: 3}}, 0, false},
		{[]api.Price{{Set: 6, Worth: 1}}, 1, true}, {[]api.Price{{Set: 6, Worth: 2}}, 0, false},
		{[]api.Price{{Set: 6, Worth: 1}, {Set: 2, Worth: 2}}, 3, true}, {[]api.Price{{Set: 6, Worth: 1}, {Set: 4, Worth: 1}}, 0, false},
		{[]api.Price{{Set: 2, Worth: 1}, {Set: 2, Worth: 1}}, 0, false}, {[]api.Price{{Set: 2, Worth: 1}, {Set: 4, Worth: 1}, {Set: 2, Worth: 1}}, 0, false},
		{[]api.Price{{Set: 2, Worth: 0}}, 0, false}, {[]api.Price{{Set: 2, Worth: -1}}, 0, false}, {[]api.Price{{Set: 2, Worth: math.MinInt}}, 0, false},
		{[]api.Price{{Set: 2, Worth: 1}, {Set: 4, Worth: math.MaxInt}}, 0, false},
		{[]api.Price{{Set: 0, Worth: 1}}, 0, false}, {[]api.Price{{Set: 1, Worth: 1}}, 0, false}, {[]api.Price{{Set: 3, Worth: 1}}, 0, false},
		{[]api.Price{{Set: 8, Worth: 1}}, 0, false}, {[]api.Price{{Set: -2, Worth: 1}}, 0, false},
		{[]api.Price{{Set: math.MaxInt - 1, Worth: 1}}, 0, false}, {[]api.Price{{Set: math.MinInt, Worth: 1}}, 0, false},
		{slices.Repeat([]api.Price{{Set: 2, Worth: 1}}, 1000), 0, false},
	} {
		worth, ok, e := branch.Proves(x.n, x.ways, c.proof)
		same(t, fmt.Sprint("Proves ", c.proof), list(worth, ok, e), list(c.worth, c.ok, api.OK))
	}
	// No street enters the set 4, which may be worth up to 1000.
	x.ways = x.ways[:1]
	for worth, want := range map[int]int{1: 1, 1000: 1000, 1001: 0} {
		got, ok, e := branch.Proves(x.n, x.ways, []api.Price{{Set: 4, Worth: worth}})
		same(t, fmt.Sprint("Proves ", worth), list(got, ok, e), list(want, want > 0, api.OK))
	}
}

func TestP3_3Reference(t *testing.T) {
	r := rand.New(rand.NewSource(3))
	right, wrong := 0, 0
	for _, x := range someTowns(150, 12) {
		sets := allSets(x.n)
		for range 8 {
			var proof []api.Price
			for range r.Intn(4) {
				proof = append(proof, api.Price{Set: sets[r.Intn(len(sets))], Worth: 1 + r.Intn(3)})
			}
			worth, ok, e := branch.Proves(x.n, x.ways, proof)
			want := slowProves(x.n, x.ways, proof)
			same(t, fmt.Sprint("Proves ", x, proof), list(worth, ok, e), list(max(want, 0), want >= 0, api.OK))
			if ok && len(proof) > 1 {
				right++
			} else if !ok {
				wrong++
			}
		}
	}
	if right < 100 || wrong < 100 {
		t.Error("too few proofs of one kind:", right, wrong)
	}
}

func TestP3_4(t *testing.T) {
	for _, c := range []struct {
		x    town
		want int
	}{
		{example(), 2}, {ring(), 1}, {town{4, rings()}, 9}, {town{2, nil}, 0}, {town{7, nil}, 0},
		{town{2, slices.Repeat([]api.Way{{A: 0, B: 1}}, 30)}, 30},
		{town{2, slices.Repeat([]api.Way{{A: 1, B: 0}}, 30)}, 0},
		{town{3, slices.Repeat([]api.Way{{A: 1, B: 2}, {A: 2, B: 1}}, 15)}, 0},
	} {
		many, e := branch.Count(c.x.n, c.x.ways)
		same(t, fmt.Sprint("Count ", c.x), list(many, e), list(c.want, api.OK))
	}
	for _, x := range append(slices.Concat(someTowns(150, 13), someTowns(6, api.MaxWays)), fullTown()) {
		many, e := branch.Count(x.n, x.ways)
		same(t, fmt.Sprint("Count ", x), list(many, e), list(len(allBranchings(x.n, x.ways)), api.OK))
	}
}

// apart checks that Apart returns many branchings without a common street, in lexicographic order.
func apart(t *testing.T, x town, many int) {
	t.Helper()
	all, e := branch.Apart(x.n, x.ways)
	if len(all) != many || e != api.OK {
		t.Errorf("Apart %v: got %v, %d, want %d branchings", x, all, e, many)
	}
	for k, l := range all {
		if _, ok, e := branch.Is(x.n, x.ways, l); !ok || e != api.OK {
			t.Error("Apart", x, "returns no branching:", l)
		}
		for _, other := range all[:k] {
			if common(other, l) || slices.Compare(other, l) >= 0 {
				t.Error("Apart", x, "returns a street twice, or in a wrong order:", all)
			}
		}
	}
}

func TestP3_5(t *testing.T) {
	for _, c := range []struct {
		x         town
		many, set int
	}{
		{example(), 1, 4}, {ring(), 1, 4}, {town{4, rings()}, 2, 4}, {town{2, nil}, 0, 2}, {town{7, nil}, 0, 2},
		{town{2, slices.Repeat([]api.Way{{A: 0, B: 1}}, 30)}, 30, 2},
		{town{3, slices.Repeat([]api.Way{{A: 1, B: 2}, {A: 2, B: 1}}, 15)}, 0, 6},
		{town{3, slices.Repeat([]api.Way{{A: 1, B: 2}, {A: 2, B: 1}, {A: 0, B: 1}}, 10)}, 10, 4},
		{town{4, []api.Way{{A: 0, B: 3}, {A: 3, B: 2}, {A: 2, B: 1}, {A: 1, B: 3}, {A: 1, B: 2}, {A: 3, B: 1}}}, 1, 14},
	} {
		many, set, e := branch.Narrow(c.x.n, c.x.ways)
		same(t, fmt.Sprint("Narrow ", c.x), list(many, set, e), list(c.many, c.set, api.OK))
		apart(t, c.x, c.many)
	}
	for _, x := range append(someTowns(150, api.MaxWays), fullTown()) {
		many, set, e := branch.Narrow(x.n, x.ways)
		wantMany, wantSet := slowNarrow(x.n, x.ways)
		same(t, fmt.Sprint("Narrow ", x), list(many, set, e), list(wantMany, wantSet, api.OK))
		apart(t, x, wantMany)
	}
}
