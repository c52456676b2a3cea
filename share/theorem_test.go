package share_test

import (
	"fmt"
	"math"
	"math/rand"
	"slices"
	"testing"

	"trishaw/api"
	"trishaw/share"
)

func dearer(t *testing.T, wishes [][]int) [][]int {
	t.Helper()
	table, e := share.Dearer(wishes)
	if e != api.OK {
		t.Fatal("Dearer", wishes, e)
	}
	return table
}

func assign(t *testing.T, wishes [][]int) ([]int, int) {
	t.Helper()
	rickshaws, sum, e := share.Assign(wishes)
	if e != api.OK {
		t.Fatal("Assign", wishes, e)
	}
	return rickshaws, sum
}

func rents(t *testing.T, wishes [][]int, k int) api.Parts {
	t.Helper()
	p, e := share.Rents(wishes, k)
	if e != api.OK {
		t.Fatal("Rents", wishes, k, e)
	}
	return p
}

// envies reports whether there is envy.
func envies(t *testing.T, wishes [][]int, rickshaws []int, p api.Parts) bool {
	t.Helper()
	pairs, e := share.Envy(wishes, rickshaws, p)
	if e != api.OK {
		t.Fatal("Envy", wishes, rickshaws, p, e)
	}
	return len(pairs) > 0
}

func TestP8_8(t *testing.T) {
	equal, less := 0, 0
	for _, x := range someBoth(3000, api.MaxThings) {
		p, score, e := share.Winner(x.a, x.b)
		a, b, f := share.Scores(x.a, x.b, p)
		ok, g := share.Efficient(x.a, x.b, p)
		same(t, fmt.Sprint("Winner ", x), list(a, b, ok, e, f, g), list(score, score, true, api.OK, api.OK, api.OK))
		part := 0
		for _, n := range p.Nums {
			if n != 0 && n != p.Den {
				part++
			}
		}
		if part > 1 || value(score).Cmp(rat(api.MaxPoints, 2)) < 0 {
			t.Error("Winner", x, p, score)
		}
		_, lesser, e := share.Whole(x.a, x.b)
		switch c := rat(lesser, 1).Cmp(value(score)); {
		case e != api.OK || c > 0:
			t.Error("Whole", x, lesser, score, e)
		case c == 0:
			equal++
		default:
			less++
		}
	}
	if equal < 300 || less < 300 {
		t.Error("too few points for which Whole is as good as Winner, or is not:", equal, less)
	}
}

// differ reports whether no rent differs from another one by more than whoever has its rickshaw by Assign allows.
func differ(t *testing.T, wishes [][]int, p api.Parts) bool {
	rickshaws, _ := assign(t, wishes)
	for j, y := range rickshaws {
		for x := range rickshaws {
			if zero().Sub(values(p)[y], values(p)[x]).Cmp(rat(wishes[j][y]-wishes[j][x], 1)) > 0 {
				return false
			}
		}
	}
	return true
}

func TestP8_9(t *testing.T) {
	r := rand.New(rand.NewSource(7))
	yes, no := 0, 0
	for _, wishes := range someWishes(1000, api.MaxRenters) {
		table := dearer(t, wishes)
		for k := range table {
			for l := range table {
				for x := range table {
					if table[k][l] > table[k][x]+table[x][l] || table[k][k] != 0 {
						t.Error("Dearer", wishes, k, x, l, table)
					}
				}
			}
		}
		rickshaws, _ := assign(t, wishes)
		for k := range wishes {
			if !differ(t, wishes, rents(t, wishes, k)) {
				t.Error("Rents", wishes, k)
			}
		}
		p := randomRents(r, wishes, rents(t, wishes, r.Intn(len(wishes))))
		differs := differ(t, wishes, p)
		if differs == envies(t, wishes, rickshaws, p) {
			t.Error("Envy", wishes, p, differs)
		}
		if differs {
			yes++
		} else {
			no++
		}
	}
	if yes < 200 || no < 100 {
		t.Error("too few rents without or with envy:", yes, no)
	}
}

func TestP8_10(t *testing.T) {
	r := rand.New(rand.NewSource(8))
	several, others := 0, 0
	for _, wishes := range someWishes(300, api.MaxRenters) {
		rickshaws, sum := assign(t, wishes)
		prices := []api.Parts{randomRents(r, wishes, rents(t, wishes, 0))}
		for k := range wishes {
			p := rents(t, wishes, k)
			if envies(t, wishes, rickshaws, p) {
				t.Error("Rents", wishes, k, p)
			}
			prices = append(prices, p)
		}
		for _, p := range prices {
			envy := envies(t, wishes, rickshaws, p)
			for _, l := range slowAssignments(len(wishes)) {
				greatest := worth(wishes, l) == sum
				if envies(t, wishes, l, p) != (envy || !greatest) {
					t.Error("Envy", wishes, l, p, envy, greatest)
				}
				if greatest && !slices.Equal(l, rickshaws) {
					several++
				}
				if !greatest {
					others++
				}
			}
		}
	}
	if several < 300 || others < 300 {
		t.Error("too few other assignments with the greatest sum, or with a lesser one:", several, others)
	}
}

func TestP8_11(t *testing.T) {
	for _, wishes := range someWishes(1000, api.MaxRenters) {
		n, rent, table := len(wishes), total(wishes[0]), dearer(t, wishes)
		for k := range wishes {
			column := 0
			for _, row := range table {
				column += row[k]
			}
			least, most, e := share.Limits(wishes, k)
			want := list(ratio(rat(rent-total(table[k]), n)), ratio(rat(rent+column, n)), api.OK)
			same(t, fmt.Sprint("Limits ", wishes, k), list(least, most, e), want)
			same(t, fmt.Sprint("the least of Rents ", wishes, k), list(ratio(values(rents(t, wishes, k))[k])), list(least))
			for l := range wishes {
				if other := values(rents(t, wishes, l))[k]; other.Cmp(value(least)) < 0 || other.Cmp(value(most)) > 0 {
					t.Error("Rents", wishes, l, "beyond Limits of", k)
				}
			}
		}
	}
}

func TestP8_12(t *testing.T) {
	r := rand.New(rand.NewSource(9))
	for _, wishes := range someWishes(1000, api.MaxRenters) {
		drivers, rickshaws := r.Perm(len(wishes)), r.Perm(len(wishes))
		other := make([][]int, len(wishes))
		for i, from := range drivers {
			for _, k := range rickshaws {
				other[i] = append(other[i], wishes[from][k])
			}
		}
		_, a := assign(t, wishes)
		_, b := assign(t, other)
		same(t, fmt.Sprint("renumbered ", wishes, other), list(b), list(a))
	}
}

// odd returns an int that is often at or beyond a limit.
func odd(r *rand.Rand) int {
	some := []int{math.MinInt, -5001, -100, -1, 0, 1, 2, 4, 5, 6, 99, 100, 101, 999, 1000, 1001, 5000, 5001, api.MaxPart, api.MaxPart + 1, 1<<62 + 1, math.MaxInt}
	return some[r.Intn(len(some))]
}

// odds returns a list of so many such numbers.
func odds(r *rand.Rand, many int) []int {
	var list []int
	for range many {
		list = append(list, odd(r))
	}
	return list
}

// twice checks that calls return the same once more and change no argument, and that an error comes alone; it returns how many errors there are.
func twice(t *testing.T, arguments []any, calls func() []call) int {
	t.Helper()
	before := fmt.Sprint(arguments)
	first, second := calls(), calls()
	if fmt.Sprint(first) != fmt.Sprint(second) || fmt.Sprint(arguments) != before {
		t.Fatal("not the same again:", before, first, second)
	}
	errors := 0
	for _, c := range first {
		if c.errno() != api.OK {
			errors++
			if !c.alone() {
				t.Fatal("beside an error:", c)
			}
		}
	}
	return errors
}

// P1 and P2: whatever the arguments are, each call ends, changes none of them, and returns the same once more.
func TestAnyPoints(t *testing.T) {
	r := rand.New(rand.NewSource(10))
	refused := 0
	for _, x := range someBoth(4000, api.MaxThings) {
		n := len(x.a)
		p := randomParts(r, n)
		switch r.Intn(6) {
		case 0:
			x.a[r.Intn(n)] = odd(r)
		case 1:
			x.b = odds(r, r.Intn(10))
		case 2:
			p.Nums[r.Intn(n)] = odd(r)
		case 3:
			p = api.Parts{Nums: odds(r, r.Intn(10)), Den: odd(r)}
		}
		refused += twice(t, list(x, p), func() []call { return pointCalls(x, p) })
	}
	if refused < 1000 {
		t.Error("too few errors:", refused)
	}
}

func TestAnyWishes(t *testing.T) {
	r := rand.New(rand.NewSource(11))
	refused := 0
	for _, wishes := range someWishes(4000, api.MaxRenters) {
		n := len(wishes)
		k, rickshaws := r.Intn(n), r.Perm(n)
		p := rents(t, wishes, k)
		switch r.Intn(8) {
		case 0:
			wishes[r.Intn(n)][r.Intn(n)] = odd(r)
		case 1:
			wishes[r.Intn(n)] = odds(r, r.Intn(7))
		case 2:
			k = odd(r)
		case 3:
			rickshaws = odds(r, n+r.Intn(2))
		case 4:
			p.Nums[r.Intn(n)] = odd(r)
		case 5:
			p = api.Parts{Nums: odds(r, r.Intn(7)), Den: odd(r)}
		}
		refused += twice(t, list(wishes, k, rickshaws, p), func() []call { return wishCalls(wishes, k, rickshaws, p) })
	}
	if refused < 1000 {
		t.Error("too few errors:", refused)
	}
}

// fill sets all elements of some lists, each to a number of its own, and checks that no list changed another one.
func fill(t *testing.T, all [][]int) {
	t.Helper()
	for k, l := range all {
		if len(l) == 0 {
			t.Fatal("an empty list:", all)
		}
		for i := range l {
			l[i] = 900 + k
		}
		_ = append(l, 777)
	}
	for k, l := range all {
		same(t, "a list", list(l), list(slices.Repeat([]int{900 + k}, len(l))))
	}
}

// Rule 4: results are new memory, and no argument is changed.
func TestMemory(t *testing.T) {
	a, b, nums := []int{60, 40, 99}, []int{30, 70, 99}, []int{1, 0, 99}
	wishes := [][]int{{5, 5, 0, 99}, {8, 2, 0, 99}, {9, 0, 1, 99}}
	rickshaws, prices := []int{1, 0, 2, 99}, []int{5, 4, 1, 99}
	arguments := list(a, b, nums, wishes, rickshaws, prices)
	before := fmt.Sprint(arguments)
	x, p := both{a[:2], b[:2]}, api.Parts{Nums: nums[:2], Den: 1}
	w, q := [][]int{wishes[0][:3], wishes[1][:3], wishes[2][:3]}, api.Parts{Nums: prices[:3], Den: 1}
	calls := func() string { return fmt.Sprint(pointCalls(x, p), wishCalls(w, 1, rickshaws[:3], q)) }
	want := calls()
	for range 2 {
		winner, _, _ := share.Winner(x.a, x.b)
		best, _, _ := share.Assign(w)
		price, _ := share.Rents(w, 1)
		table, _ := share.Dearer(w)
		fill(t, append([][]int{winner.Nums, best, price.Nums}, table...))
		pairs, _ := share.Envy(w, rickshaws[:3], q)
		if len(pairs) == 0 {
			t.Fatal("no envy")
		}
		pairs[0] = api.Pair{A: 77, B: 77}
		same(t, "all results", list(calls()), list(want))
		same(t, "the arguments", list(fmt.Sprint(arguments)), list(before))
	}
}
