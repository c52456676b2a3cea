package share_test

import (
	"fmt"
	"math"
	"math/rand"
	"reflect"
	"slices"
	"testing"

	"trishaw/api"
	"trishaw/share"
)

func list(x ...any) []any { return x }

// same compares what a call returned, its error last, with what is expected; an empty list may be nil.
func same(t *testing.T, what string, got, want []any) {
	t.Helper()
	if fmt.Sprint(got) != fmt.Sprint(want) {
		t.Errorf("%s: got %v, want %v", what, got, want)
	}
}

// call is a call of a function: its name, and what it returned, its error last.
type call struct {
	name   string
	result []any
}

func (c call) errno() api.Errno { return c.result[len(c.result)-1].(api.Errno) }

// alone reports whether nothing is beside the error.
func (c call) alone() bool {
	return !slices.ContainsFunc(c.result[:len(c.result)-1], func(x any) bool {
		v := reflect.ValueOf(x)
		return !v.IsZero() && !(v.Kind() == reflect.Slice && v.Len() == 0)
	})
}

func (c call) refused(t *testing.T, what any, want api.Errno) {
	t.Helper()
	if c.errno() != want || !c.alone() {
		t.Errorf("%s %v: got %v, want error %d alone", c.name, what, c.result, want)
	}
}

func results(name string, result ...any) call { return call{name, result} }

// partCalls calls all functions with points and parts.
func partCalls(x both, p api.Parts) []call {
	a1, a2, e := share.Scores(x.a, x.b, p)
	b, f := share.Efficient(x.a, x.b, p)
	return []call{results("Scores", a1, a2, e), results("Efficient", b, f)}
}

// pointCalls calls all functions with points.
func pointCalls(x both, p api.Parts) []call {
	a1, a2, e := share.Winner(x.a, x.b)
	b1, b2, f := share.Whole(x.a, x.b)
	return append(partCalls(x, p), results("Winner", a1, a2, e), results("Whole", b1, b2, f))
}

// wishCalls calls all functions with wishes.
func wishCalls(wishes [][]int, k int, rickshaws []int, rents api.Parts) []call {
	a1, a2, e1 := share.Assign(wishes)
	b, e2 := share.Dearer(wishes)
	c, e3 := share.Envy(wishes, rickshaws, rents)
	return append(rickshawCalls(wishes, k), results("Assign", a1, a2, e1), results("Dearer", b, e2), results("Envy", c, e3))
}

// rickshawCalls calls all functions with a rickshaw.
func rickshawCalls(wishes [][]int, k int) []call {
	a, e := share.Rents(wishes, k)
	b1, b2, f := share.Limits(wishes, k)
	return []call{results("Rents", a, e), results("Limits", b1, b2, f)}
}

// good returns points for so many things.
func good(many int) []int {
	points := make([]int, many)
	points[many-1] = api.MaxPoints
	return points
}

// noPoints returns lists that are not points, but not too long.
func noPoints() [][]int {
	return [][]int{
		nil, {}, {0}, {99}, {101}, {-100}, {100, 1}, {101, -1}, {-1, 101}, {50, 49}, {50, 51}, {60, 60, -20}, make([]int, 8),
		{1, 1, 1, 1, 1, 1, 1, 94}, {math.MaxInt}, {math.MinInt}, {math.MinInt, math.MinInt, 100}, {math.MaxInt, math.MaxInt, 102},
	}
}

// tooLong returns lists that are longer than points may be, with and without other errors.
func tooLong() [][]int {
	return [][]int{good(9), make([]int, 9), slices.Repeat([]int{-1}, 9), slices.Repeat([]int{1}, 100), good(1000)}
}

// someParts returns parts for some numbers of things, and others that never are.
func someParts() []api.Parts {
	return []api.Parts{{}, {Nums: []int{1}, Den: 1}, {Nums: []int{1, 0}, Den: 2}, {Nums: make([]int, 8), Den: 1}, {Nums: make([]int, 9), Den: 1}, {Nums: []int{-1}, Den: -1}}
}

// First a, whatever b is, its length before its numbers; then b in the same way; then both, and all of this before the parts.
func TestPointErrors(t *testing.T) {
	everything := slices.Concat(noPoints(), tooLong())
	for n := 1; n <= api.MaxThings; n++ {
		everything = append(everything, good(n))
	}
	refused := func(a, b []int, want api.Errno) {
		for _, p := range someParts() {
			for _, c := range pointCalls(both{a, b}, p) {
				c.refused(t, list(a, b, p), want)
			}
		}
	}
	for _, b := range everything {
		for _, a := range tooLong() {
			refused(a, b, api.ErrLimit)
		}
		for _, a := range noPoints() {
			refused(a, b, api.ErrArg)
		}
	}
	for n := 1; n <= api.MaxThings; n++ {
		for _, b := range tooLong() {
			refused(good(n), b, api.ErrLimit)
		}
		for _, b := range noPoints() {
			refused(good(n), b, api.ErrArg)
		}
		for many := 1; many <= api.MaxThings; many++ {
			if many != n {
				refused(good(n), good(many), api.ErrArg)
			}
		}
	}
}

// noParts returns what are not parts of so many things.
func noParts(many int) []api.Parts {
	ones := func(many, x int) []int { return slices.Repeat([]int{x}, many) }
	all := []api.Parts{
		{}, {Den: 1}, {Nums: []int{}, Den: 1}, {Nums: ones(many-1, 1), Den: 1}, {Nums: ones(many+1, 1), Den: 1}, {Nums: ones(many+1, 0), Den: 1}, {Nums: ones(1000, 1), Den: 2},
		{Nums: ones(many, 0), Den: 0}, {Nums: ones(many, 0), Den: 2}, {Nums: ones(many, 0), Den: -1}, {Nums: ones(many, 1), Den: -1}, {Nums: ones(many, -1), Den: -1}, {Nums: ones(many, -1), Den: -2},
		{Nums: ones(many, 2), Den: 2}, {Nums: ones(many, 2), Den: 4}, {Nums: ones(many, 9), Den: 12}, {Nums: ones(many, 5000000), Den: api.MaxPart},
		{Nums: ones(many, 1), Den: api.MaxPart + 1}, {Nums: ones(many, 1), Den: math.MaxInt}, {Nums: ones(many, 1), Den: math.MinInt}, {Nums: ones(many, math.MinInt), Den: math.MinInt}, {Nums: ones(many, math.MaxInt), Den: math.MaxInt},
	}
	for k := range many {
		for _, bad := range []int{-1, 4, math.MinInt, math.MaxInt} {
			p := api.Parts{Nums: ones(many, 1), Den: 3}
			p.Nums[k] = bad
			all = append(all, p)
		}
		p := api.Parts{Nums: ones(many, 2), Den: 6}
		p.Nums[k] = 4
		all = append(all, p)
	}
	return all
}

func TestPartErrors(t *testing.T) {
	for many := 1; many <= api.MaxThings; many++ {
		for _, p := range noParts(many) {
			for _, c := range partCalls(both{good(many), good(many)}, p) {
				c.refused(t, list(many, p), api.ErrArg)
			}
		}
	}
}

// Points and parts of the least and greatest size are points and parts.
func TestLimitsOfPoints(t *testing.T) {
	one := both{[]int{100}, []int{100}}
	for _, c := range []struct {
		p    api.Parts
		a, b api.Ratio
	}{
		{api.Parts{Nums: []int{0}, Den: 1}, api.Ratio{Num: 0, Den: 1}, api.Ratio{Num: 100, Den: 1}},
		{api.Parts{Nums: []int{1}, Den: 1}, api.Ratio{Num: 100, Den: 1}, api.Ratio{Num: 0, Den: 1}},
		{api.Parts{Nums: []int{1}, Den: api.MaxPart}, api.Ratio{Num: 1, Den: 100000}, api.Ratio{Num: 9999999, Den: 100000}},
		{api.Parts{Nums: []int{9999999}, Den: api.MaxPart}, api.Ratio{Num: 9999999, Den: 100000}, api.Ratio{Num: 1, Den: 100000}},
		{api.Parts{Nums: []int{1}, Den: 9999991}, api.Ratio{Num: 100, Den: 9999991}, api.Ratio{Num: 999999000, Den: 9999991}},
	} {
		same(t, fmt.Sprint("one thing ", c.p), list(partCalls(one, c.p)), list([]call{results("Scores", c.a, c.b, api.OK), results("Efficient", true, api.OK)}))
	}
	eight := both{[]int{93, 1, 1, 1, 1, 1, 1, 1}, []int{1, 1, 1, 1, 1, 1, 1, 93}}
	p := api.Parts{Nums: []int{1, 1, 1, 1, 0, 0, 0, 0}, Den: 1}
	same(t, "eight things", list(pointCalls(eight, p)), list([]call{
		results("Scores", api.Ratio{Num: 96, Den: 1}, api.Ratio{Num: 96, Den: 1}, api.OK), results("Efficient", true, api.OK),
		results("Winner", p, api.Ratio{Num: 96, Den: 1}, api.OK), results("Whole", 15, 96, api.OK),
	}))
}

func TestExamples(t *testing.T) {
	a, b := []int{60, 40}, []int{30, 70}
	p, score, e := share.Winner(a, b)
	same(t, "Winner of the first example", list(p, score, e), list(api.Parts{Nums: []int{11, 1}, Den: 11}, api.Ratio{Num: 700, Den: 11}, api.OK))
	set, less, e := share.Whole(a, b)
	same(t, "Whole of the first example", list(set, less, e), list(1, 60, api.OK))
	wishes := [][]int{{5, 5}, {8, 2}}
	rickshaws, sum, e := share.Assign(wishes)
	same(t, "Assign of the second example", list(rickshaws, sum, e), list([]int{1, 0}, 13, api.OK))
	for k, want := range [][]int{{5, 5}, {8, 2}} {
		p, e := share.Rents(wishes, k)
		same(t, "Rents of the second example", list(p, e), list(api.Parts{Nums: want, Den: 1}, api.OK))
	}
	least, most, e := share.Limits(wishes, 0)
	same(t, "Limits of the second example", list(least, most, e), list(api.Ratio{Num: 5, Den: 1}, api.Ratio{Num: 8, Den: 1}, api.OK))
}

func TestP8_1Scores(t *testing.T) {
	r := rand.New(rand.NewSource(4))
	for _, x := range someBoth(2000, api.MaxThings) {
		p := randomParts(r, len(x.a))
		a, b, e := share.Scores(x.a, x.b, p)
		wantA, wantB := slowScores(x, values(p))
		same(t, fmt.Sprint("Scores ", x, p), list(a, b, e), list(ratio(wantA), ratio(wantB), api.OK))
	}
}

func TestP8_1Winner(t *testing.T) {
	for _, c := range []struct {
		a, b  []int
		nums  []int
		den   int
		score api.Ratio
	}{
		// Equal ratios: the lesser index first.
		{[]int{20, 80}, []int{20, 80}, []int{8, 3}, 8, api.Ratio{Num: 50, Den: 1}},
		{[]int{80, 20}, []int{80, 20}, []int{5, 0}, 8, api.Ratio{Num: 50, Den: 1}},
		{[]int{10, 20, 70}, []int{5, 10, 85}, []int{31, 31, 11}, 31, api.Ratio{Num: 1700, Den: 31}},
		// Things to which only A gives points come first, whatever the points are, and those to which only B does come after all others.
		{[]int{98, 1, 1}, []int{1, 0, 99}, []int{99, 99, 0}, 99, api.Ratio{Num: 99, Den: 1}},
		{[]int{0, 50, 50}, []int{50, 50, 0}, []int{0, 1, 2}, 2, api.Ratio{Num: 75, Den: 1}},
		{[]int{1, 99, 0, 0}, []int{0, 99, 1, 0}, []int{2, 1, 0, 0}, 2, api.Ratio{Num: 101, Den: 2}},
		// Nobody gives points to the first and the last one; both scores are the same without a part of any thing.
		{[]int{0, 100, 0, 0}, []int{0, 0, 100, 0}, []int{0, 1, 0, 0}, 1, api.Ratio{Num: 100, Den: 1}},
		{[]int{0, 50, 50, 0}, []int{0, 50, 50, 0}, []int{0, 1, 0, 0}, 1, api.Ratio{Num: 50, Den: 1}},
		{[]int{0, 100}, []int{0, 100}, []int{0, 1}, 2, api.Ratio{Num: 50, Den: 1}},
	} {
		p, score, e := share.Winner(c.a, c.b)
		want := parts(values(api.Parts{Nums: c.nums, Den: c.den}))
		same(t, fmt.Sprint("Winner ", c.a, c.b), list(p, score, e), list(want, c.score, api.OK))
	}
	kinds := map[string]int{}
	for _, x := range someBoth(5000, api.MaxThings) {
		p, score, e := share.Winner(x.a, x.b)
		want := slowWinner(x)
		wantScore, _ := slowScores(x, want)
		same(t, fmt.Sprint("Winner ", x), list(p, score, e), list(parts(want), ratio(wantScore), api.OK))
		for i := range x.a {
			if x.a[i] == 0 && x.b[i] == 0 {
				kinds["nobody's"]++
			}
		}
		if p.Den == 1 {
			kinds["whole"]++
		}
	}
	if kinds["nobody's"] < 500 || kinds["whole"] < 500 {
		t.Error("too few points of some kind:", kinds)
	}
}

func TestP8_2(t *testing.T) {
	for _, c := range []struct {
		a, b, nums []int
		den        int
		want       bool
	}{
		{[]int{60, 40}, []int{30, 70}, []int{0, 1}, 1, false},
		{[]int{60, 40}, []int{30, 70}, []int{1, 0}, 1, true},
		{[]int{60, 40}, []int{30, 70}, []int{0, 0}, 1, true},
		{[]int{60, 40}, []int{30, 70}, []int{1, 1}, 1, true},
		{[]int{60, 40}, []int{30, 70}, []int{1, 0}, 2, true},
		{[]int{60, 40}, []int{30, 70}, []int{2, 1}, 2, true},
		{[]int{60, 40}, []int{30, 70}, []int{1, 1}, 2, false},
		{[]int{60, 40}, []int{30, 70}, []int{9999999, 1}, api.MaxPart, false},
		// The same ratios: all parts are efficient.
		{[]int{60, 40}, []int{60, 40}, []int{0, 1}, 1, true},
		{[]int{60, 40}, []int{60, 40}, []int{1, 2}, 3, true},
		// What only one driver gives points to must be with this driver, though nothing is given for it.
		{[]int{100, 0}, []int{0, 100}, []int{1, 0}, 1, true},
		{[]int{100, 0}, []int{0, 100}, []int{0, 0}, 1, false},
		{[]int{100, 0}, []int{0, 100}, []int{1, 1}, 1, false},
		{[]int{100, 0}, []int{0, 100}, []int{0, 1}, 1, false},
		{[]int{100, 0}, []int{0, 100}, []int{9999999, 0}, api.MaxPart, false},
		{[]int{100, 0}, []int{0, 100}, []int{api.MaxPart, 1}, api.MaxPart, false},
		{[]int{100, 0}, []int{50, 50}, []int{1, 1}, 1, false},
		{[]int{100, 0}, []int{50, 50}, []int{1, 0}, 2, true},
		{[]int{50, 50}, []int{100, 0}, []int{0, 0}, 1, false},
		{[]int{50, 50}, []int{100, 0}, []int{1, 2}, 2, true},
		{[]int{1, 99}, []int{0, 100}, []int{0, 0}, 1, false},
		{[]int{0, 100}, []int{1, 99}, []int{1, 1}, 1, false},
		// What nobody gives points to plays no part.
		{[]int{0, 100}, []int{0, 100}, []int{1, 2}, 3, true},
		{[]int{0, 100, 0}, []int{0, 0, 100}, []int{1, 3, 0}, 3, true},
		{[]int{0, 100, 0}, []int{0, 0, 100}, []int{1, 2, 0}, 2, true},
		{[]int{0, 60, 40}, []int{0, 30, 70}, []int{1, 0, 2}, 2, false},
	} {
		p := api.Parts{Nums: c.nums, Den: c.den}
		ok, e := share.Efficient(c.a, c.b, p)
		same(t, fmt.Sprint("Efficient ", c.a, c.b, p), list(ok, e), list(c.want, api.OK))
		if slowEfficient(both{c.a, c.b}, values(p)) != c.want {
			t.Error("the reference of Efficient", c)
		}
	}
	r := rand.New(rand.NewSource(5))
	yes, no := 0, 0
	for k, x := range someBoth(2500, 5) {
		p := randomParts(r, len(x.a))
		if k%2 == 0 {
			p = cutParts(r, x)
		}
		ok, e := share.Efficient(x.a, x.b, p)
		same(t, fmt.Sprint("Efficient ", x, p), list(ok, e), list(slowEfficient(x, values(p)), api.OK))
		if ok {
			yes++
		} else {
			no++
		}
	}
	if yes < 700 || no < 700 {
		t.Error("too few parts that are efficient, or that are not:", yes, no)
	}
	for _, x := range someBoth(60, api.MaxThings) {
		p := cutParts(r, x)
		ok, e := share.Efficient(x.a, x.b, p)
		same(t, fmt.Sprint("Efficient ", x, p), list(ok, e), list(slowEfficient(x, values(p)), api.OK))
	}
}

func TestP8_3(t *testing.T) {
	for _, c := range []struct {
		a, b        []int
		set, lesser int
	}{
		{[]int{100}, []int{100}, 0, 0},
		{[]int{100, 0}, []int{100, 0}, 0, 0},
		{[]int{50, 50}, []int{50, 50}, 1, 50},
		{[]int{0, 50, 50}, []int{0, 50, 50}, 2, 50},
		{[]int{0, 0, 100}, []int{100, 0, 0}, 4, 100},
		{[]int{100, 0, 0, 0, 0, 0, 0, 0}, []int{0, 0, 0, 0, 0, 0, 0, 100}, 1, 100},
	} {
		set, lesser, e := share.Whole(c.a, c.b)
		same(t, fmt.Sprint("Whole ", c.a, c.b), list(set, lesser, e), list(c.set, c.lesser, api.OK))
	}
	for _, x := range someBoth(500, api.MaxThings) {
		set, lesser, e := share.Whole(x.a, x.b)
		wantSet, wantLesser := slowWhole(x)
		same(t, fmt.Sprint("Whole ", x), list(set, lesser, e), list(wantSet, wantLesser, api.OK))
	}
}

// noWishes returns tables that are not wishes.
func noWishes() [][][]int {
	all := [][][]int{
		nil, {}, {nil}, {{}}, make([][]int, 6), {{1, 2}}, {{1}, {1}}, {{1, 2}, {3}}, {{3}, {1, 2}}, {{1, 2}, nil}, {nil, {1, 2}}, {{1, 2, 3}, {1, 2, 3}}, {{1, 2}, {1, 2}, {1, 2}},
		{{1, 2}, {3, 1}}, {{1, 2}, {1, 1}}, {{1, 2, 3}, {3, 2, 1}, {3, 3, 1}}, {{math.MaxInt, math.MinInt}, {-1, 0}}, {{math.MinInt, math.MinInt}, {0, 0}}, {{math.MaxInt, 1}, {math.MaxInt, 1}},
		slices.Repeat([][]int{{0, 0, 0, 0, 0, 0}}, 6), slices.Repeat([][]int{make([]int, 1000)}, 1000),
	}
	for n := 1; n <= api.MaxRenters; n++ {
		for k := range n * n {
			for _, bad := range []int{-1, 1001, math.MinInt, math.MaxInt} {
				wishes := make([][]int, n)
				for i := range wishes {
					wishes[i] = slices.Repeat([]int{500}, n)
				}
				row := wishes[k/n]
				row[k%n] = bad
				if n > 1 { // so that the sum is the same
					row[(k+1)%n] += 500 - bad
				}
				all = append(all, wishes)
			}
		}
	}
	return all
}

func TestWishErrors(t *testing.T) {
	for _, wishes := range noWishes() {
		for _, k := range []int{math.MinInt, -1, 0, 1, 5, math.MaxInt} {
			for _, rickshaws := range [][]int{nil, {0}, {1, 0}, {-1}, make([]int, 100)} {
				for _, rents := range []api.Parts{{}, {Nums: []int{1}, Den: 1}, {Nums: []int{0, 0}, Den: 0}, {Nums: []int{2, 1}, Den: 1}} {
					for _, c := range wishCalls(wishes, k, rickshaws, rents) {
						c.refused(t, list(wishes, k, rickshaws, rents), api.ErrArg)
					}
				}
			}
		}
	}
}

// inOrder returns the assignment of n rickshaws in their order.
func inOrder(n int) []int { return slowAssignments(n)[0] }

// Wishes of the least and greatest size, and with the least and greatest numbers, are wishes.
func TestLimitsOfWishes(t *testing.T) {
	for n := 1; n <= api.MaxRenters; n++ {
		for _, x := range []int{0, 1, 999, 1000} {
			row := slices.Repeat([]int{x}, n)
			wishes := slices.Repeat([][]int{row}, n)
			first := inOrder(n)
			rents := api.Parts{Nums: row, Den: 1}
			each := api.Ratio{Num: x, Den: 1}
			for k := range n {
				same(t, fmt.Sprint("equal wishes ", n, x), list(wishCalls(wishes, k, first, rents)), list([]call{
					results("Rents", rents, api.OK), results("Limits", each, each, api.OK), results("Assign", first, n*x, api.OK),
					results("Dearer", slices.Repeat([][]int{make([]int, n)}, n), api.OK), results("Envy", []api.Pair{}, api.OK),
				}))
			}
		}
	}
}

func TestP8_4(t *testing.T) {
	for _, c := range []struct {
		wishes    [][]int
		rickshaws []int
		sum       int
	}{
		{[][]int{{7}}, []int{0}, 7},
		{[][]int{{3, 7}, {3, 7}}, []int{0, 1}, 10},
		{[][]int{{3, 7}, {2, 8}}, []int{0, 1}, 11},
		{[][]int{{2, 8}, {3, 7}}, []int{1, 0}, 11},
		{[][]int{{0, 0, 9}, {0, 9, 0}, {9, 0, 0}}, []int{2, 1, 0}, 27},
		{[][]int{{1, 2, 3}, {2, 3, 1}, {2, 3, 1}}, []int{2, 0, 1}, 8},
		{[][]int{{10, 0, 0}, {9, 1, 0}, {8, 1, 1}}, []int{0, 1, 2}, 12},
	} {
		rickshaws, sum, e := share.Assign(c.wishes)
		same(t, fmt.Sprint("Assign ", c.wishes), list(rickshaws, sum, e), list(c.rickshaws, c.sum, api.OK))
	}
	for _, wishes := range someWishes(800, api.MaxRenters) {
		rickshaws, sum, e := share.Assign(wishes)
		want, wantSum := slowAssign(wishes)
		same(t, fmt.Sprint("Assign ", wishes), list(rickshaws, sum, e), list(want, wantSum, api.OK))
	}
}

func TestP8_5(t *testing.T) {
	table, e := share.Dearer([][]int{{5, 5}, {8, 2}})
	same(t, "Dearer of the second example", list(table, e), list([][]int{{0, 0}, {6, 0}}, api.OK))
	// From 0 to 2 a way over 1 is the shortest one: the driver of 1 wants 0 as much as 1, and the driver of 2 prefers it to 1 by one only.
	long := [][]int{{3, 0, 0}, {1, 1, 1}, {0, 1, 2}}
	table, e = share.Dearer(long)
	same(t, "Dearer of three", list(table, e), list([][]int{{0, 0, 1}, {3, 0, 1}, {3, 0, 0}}, api.OK))
	for _, wishes := range someWishes(800, api.MaxRenters) {
		table, e := share.Dearer(wishes)
		same(t, fmt.Sprint("Dearer ", wishes), list(table, e), list(slowDearer(wishes), api.OK))
	}
}

// Of all rents of tiny wishes: the greatest differences, the least and the greatest rents, and those with the least one, which are the only ones.
func TestP8_5And6All(t *testing.T) {
	for _, wishes := range tinyWishes(150) {
		n := len(wishes)
		assign, _ := slowAssign(wishes)
		all := allRents(wishes, assign)
		if len(all) == 0 {
			t.Fatal("no rents", wishes)
		}
		table, e := share.Dearer(wishes)
		if e != api.OK {
			t.Fatal(wishes, e)
		}
		for k := range n {
			slices.SortStableFunc(all, func(p, q api.Parts) int { return values(p)[k].Cmp(values(q)[k]) })
			first, last := all[0], all[len(all)-1]
			least, most, e := share.Limits(wishes, k)
			same(t, fmt.Sprint("Limits ", wishes, k), list(least, most, e), list(ratio(values(first)[k]), ratio(values(last)[k]), api.OK))
			p, e := share.Rents(wishes, k)
			same(t, fmt.Sprint("Rents ", wishes, k), list(p, e), list(first, api.OK))
			if len(all) > 1 && values(all[1])[k].Cmp(values(first)[k]) == 0 {
				t.Error("several rents in which one is least", wishes, k)
			}
			for l := range n {
				greatest := zero().Sub(values(first)[l], values(first)[k])
				for _, q := range all {
					if d := zero().Sub(values(q)[l], values(q)[k]); d.Cmp(greatest) > 0 {
						greatest = d
					}
				}
				same(t, fmt.Sprint("Dearer ", wishes, k, l), list(api.Ratio{Num: table[k][l], Den: 1}), list(ratio(greatest)))
			}
		}
	}
}

func TestP8_6(t *testing.T) {
	parts3 := func(a, b, c, den int) api.Parts { return api.Parts{Nums: []int{a, b, c}, Den: den} }
	for _, c := range []struct {
		wishes [][]int
		want   [3]api.Parts
	}{
		{[][]int{{9, 0, 0}, {9, 0, 0}, {9, 0, 0}}, [3]api.Parts{parts3(9, 0, 0, 1), parts3(9, 0, 0, 1), parts3(9, 0, 0, 1)}},
		{[][]int{{10, 0, 0}, {9, 1, 0}, {8, 1, 1}}, [3]api.Parts{parts3(26, 2, 2, 3), parts3(10, 0, 0, 1), parts3(29, 2, -1, 3)}},
		{[][]int{{2, 2, 0}, {4, 0, 0}, {4, 0, 0}}, [3]api.Parts{parts3(10, 4, -2, 3), parts3(4, 0, 0, 1), parts3(10, 4, -2, 3)}},
		{[][]int{{1000, 0, 0}, {0, 1000, 0}, {0, 0, 1000}}, [3]api.Parts{parts3(-1000, 2000, 2000, 3), parts3(2000, -1000, 2000, 3), parts3(2000, 2000, -1000, 3)}},
	} {
		for k, want := range c.want {
			p, e := share.Rents(c.wishes, k)
			same(t, fmt.Sprint("Rents ", c.wishes, k), list(p, e), list(want, api.OK))
			least, _, e := share.Limits(c.wishes, k)
			same(t, fmt.Sprint("Limits ", c.wishes, k), list(least, e), list(ratio(values(want)[k]), api.OK))
		}
	}
	negative := 0
	for _, wishes := range someWishes(800, api.MaxRenters) {
		n, rent, table := len(wishes), total(wishes[0]), slowDearer(wishes)
		assign, _ := slowAssign(wishes)
		for k := range n {
			p, e := share.Rents(wishes, k)
			least, most, f := share.Limits(wishes, k)
			sum, column := 0, 0
			want := api.Parts{Nums: make([]int, n), Den: n}
			for l := range n {
				sum += table[k][l]
				column += table[l][k]
			}
			for l := range n {
				want.Nums[l] = rent - sum + n*table[k][l]
			}
			what := fmt.Sprint("Rents ", wishes, k)
			same(t, what, list(p, e), list(parts(values(want)), api.OK))
			same(t, "Limits after "+what, list(least, most, f), list(ratio(rat(rent-sum, n)), ratio(rat(rent+column, n)), api.OK))
			same(t, "Envy after "+what, list(slowEnvy(wishes, assign, p), total(p.Nums)), list([]api.Pair{}, rent*p.Den))
			if least.Num < 0 {
				negative++
			}
		}
	}
	if negative < 20 {
		t.Error("too few rents below 0:", negative)
	}
}

func TestP8_6Errors(t *testing.T) {
	for n := 1; n <= api.MaxRenters; n++ {
		for _, k := range []int{math.MinInt, -1, n, n + 1, 100, math.MaxInt} {
			for _, c := range rickshawCalls(slices.Repeat([][]int{make([]int, n)}, n), k) {
				c.refused(t, list(n, k), api.ErrArg)
			}
		}
	}
}

func TestP8_7(t *testing.T) {
	wishes := [][]int{{5, 5}, {8, 2}}
	for _, c := range []struct {
		rickshaws []int
		rents     api.Parts
		want      []api.Pair
	}{
		{[]int{1, 0}, api.Parts{Nums: []int{5, 5}, Den: 1}, nil},
		{[]int{1, 0}, api.Parts{Nums: []int{8, 2}, Den: 1}, nil},
		{[]int{1, 0}, api.Parts{Nums: []int{4, 6}, Den: 1}, []api.Pair{{A: 0, B: 0}}},
		{[]int{1, 0}, api.Parts{Nums: []int{17, 3}, Den: 2}, []api.Pair{{A: 1, B: 1}}},
		{[]int{1, 0}, api.Parts{Nums: []int{49999999, 50000001}, Den: api.MaxPart}, []api.Pair{{A: 0, B: 0}}},
		{[]int{1, 0}, api.Parts{Nums: []int{80000001, 19999999}, Den: api.MaxPart}, []api.Pair{{A: 1, B: 1}}},
		{[]int{1, 0}, api.Parts{Nums: []int{50000001, 49999999}, Den: api.MaxPart}, nil},
		{[]int{0, 1}, api.Parts{Nums: []int{5, 5}, Den: 1}, []api.Pair{{A: 1, B: 0}}},
		{[]int{0, 1}, api.Parts{Nums: []int{6, 4}, Den: 1}, []api.Pair{{A: 0, B: 1}, {A: 1, B: 0}}},
		{[]int{1, 0}, api.Parts{Nums: []int{5000, -4990}, Den: 1}, []api.Pair{{A: 1, B: 1}}},
		{[]int{1, 0}, api.Parts{Nums: []int{-4990, 5000}, Den: 1}, []api.Pair{{A: 0, B: 0}}},
	} {
		pairs, e := share.Envy(wishes, c.rickshaws, c.rents)
		same(t, fmt.Sprint("Envy ", c), list(pairs, e), list(c.want, api.OK))
	}
	// The greatest and the least rent are those with a Den as well.
	great := [][]int{{1000, 1000}, {1000, 1000}}
	pairs, e := share.Envy(great, []int{0, 1}, api.Parts{Nums: []int{5000*api.MaxPart - 1, -3000*api.MaxPart + 1}, Den: api.MaxPart})
	same(t, "Envy of great rents", list(pairs, e), list([]api.Pair{{A: 0, B: 1}}, api.OK))
	r := rand.New(rand.NewSource(6))
	empty := 0
	for _, wishes := range someWishes(1500, api.MaxRenters) {
		n := len(wishes)
		near, _ := share.Rents(wishes, r.Intn(n))
		rents := randomRents(r, wishes, near)
		rickshaws, _ := slowAssign(wishes)
		if r.Intn(2) == 0 {
			rickshaws = r.Perm(n)
		}
		pairs, e := share.Envy(wishes, rickshaws, rents)
		same(t, fmt.Sprint("Envy ", wishes, rickshaws, rents), list(pairs, e), list(slowEnvy(wishes, rickshaws, rents), api.OK))
		if len(pairs) == 0 {
			empty++
		}
	}
	if empty < 300 || empty > 1200 {
		t.Error("too few rents with or without envy:", empty)
	}
}

func TestP8_7Errors(t *testing.T) {
	for n := 1; n <= api.MaxRenters; n++ {
		wishes := slices.Repeat([][]int{slices.Repeat([]int{6}, n)}, n)
		rents := api.Parts{Nums: slices.Repeat([]int{6}, n), Den: 1}
		first := inOrder(n)
		pairs, e := share.Envy(wishes, first, rents)
		same(t, "Envy of equal wishes", list(pairs, e), list([]api.Pair{}, api.OK))
		for _, p := range noRents(n) {
			pairs, e := share.Envy(wishes, first, p)
			results("Envy", pairs, e).refused(t, list(n, p), api.ErrArg)
		}
		lists := [][]int{nil, {}, first[:n-1], append(slices.Clone(first), n), append(slices.Clone(first), 0), make([]int, 1000)}
		for k := range n {
			for _, bad := range []int{-1, n, (k + 1) % n, math.MinInt, math.MaxInt} {
				l := slices.Clone(first)
				l[k] = bad
				lists = append(lists, l)
			}
		}
		for _, l := range lists {
			if n == 1 && slices.Equal(l, first) {
				continue
			}
			for _, p := range append(noRents(n), rents) {
				pairs, e := share.Envy(wishes, l, p)
				results("Envy", pairs, e).refused(t, list(n, l, p), api.ErrArg)
			}
		}
	}
}

// noRents returns what are not rents of n rickshaws whose sum is 6 n.
func noRents(n int) []api.Parts {
	each := func(x int) []int { return slices.Repeat([]int{x}, n) }
	all := []api.Parts{
		{}, {Den: 1}, {Nums: []int{}, Den: 1}, {Nums: each(6)}, {Nums: each(6), Den: -1}, {Nums: each(-6), Den: -1}, {Nums: each(12), Den: 2}, {Nums: each(5), Den: 1}, {Nums: each(7), Den: 1}, {Nums: each(0), Den: 1},
		{Nums: append(each(6), 0), Den: 1}, {Nums: each(6)[1:], Den: 1}, {Nums: make([]int, 1000), Den: 1},
		{Nums: each(6 * 5), Den: 5}, {Nums: each(0), Den: 0}, {Nums: each(math.MinInt), Den: 1}, {Nums: each(math.MaxInt), Den: 1}, {Nums: each(math.MinInt), Den: math.MinInt}, {Nums: each(math.MaxInt), Den: math.MaxInt},
	}
	if n == 1 {
		return all
	}
	two := func(x, y, den int) api.Parts {
		p := api.Parts{Nums: each(6 * den), Den: den}
		p.Nums[0], p.Nums[n-1] = x, y
		return p
	}
	const most, den = api.MaxRenters * api.MaxRent, api.MaxPart
	return append(all,
		two(most+1, 12-most-1, 1), two(12-most-1, most+1, 1), two(-most-1, 12+most+1, 1), two(2*most+1, 24-2*most-1, 2),
		two(most*den+1, (12-most)*den-1, den), two((12-most)*den-1, most*den+1, den), two(6*(den+1)+1, 6*(den+1)-1, den+1),
		two(6, 7, 1), two(5, 6, 1), two(13, 12, 2), two(14, 10, 2), two(math.MaxInt, math.MinInt+13, 1), two(math.MinInt+13, math.MaxInt, 1),
	)
}
