package stamp_test

import (
	"fmt"
	"math/rand"
	"slices"
	"testing"

	"trishaw/api"
	"trishaw/stamp"
)

func rangeOf(t *testing.T, x ticket) int {
	t.Helper()
	n, e := stamp.Range(x.h, x.values)
	if e != api.OK {
		t.Fatal("Range", x, e)
	}
	return n
}

// payable reports for each amount whether it is payable.
func payable(t *testing.T, x ticket) []bool {
	t.Helper()
	few, e := stamp.Fewest(x.h, x.values)
	if e != api.OK {
		t.Fatal("Fewest", x, e)
	}
	ok := make([]bool, len(few))
	for amount, many := range few {
		ok[amount] = many >= 0
	}
	return ok
}

func TestP4_7(t *testing.T) {
	reached := 0
	for _, x := range slices.Concat(smallTickets(), someTickets(120)) {
		all := choose(x.h+len(x.values), x.h)
		n := rangeOf(t, x)
		if n > all-1 {
			t.Error("more amounts than lists:", x, n, all)
		}
		if n == all-1 {
			reached++
		}
		counted := 0
		for amount := range x.most() + 1 {
			ways, e := stamp.Ways(x.h, x.values, amount)
			counted += ways
			if e != api.OK {
				t.Error("Ways", x, amount, e)
			}
		}
		same(t, fmt.Sprint("the sum of Ways ", x), list(counted), list(all))
	}
	if reached == 0 {
		t.Error("no range is as great as it may be")
	}
}

func TestP4_8(t *testing.T) {
	for h := 1; h <= api.MaxPlaces; h++ {
		_, n, e := stamp.Best(h, 2)
		same(t, fmt.Sprint("Best ", h, 2), list(n, e), list((h*h+6*h+1)/4, api.OK))
		l, n, e := stamp.Best(h, 1)
		same(t, fmt.Sprint("Best ", h, 1), list(l, n, e), list([]int{1}, h, api.OK))
	}
}

func TestP4_9(t *testing.T) {
	for _, x := range slices.Concat(smallTickets(), someTickets(300)) {
		mirrored, e := stamp.Mirrored(x.values)
		again, f := stamp.Mirrored(mirrored)
		same(t, fmt.Sprint("Mirrored twice ", x), list(again, e, f), list(x.values, api.OK, api.OK))
		ok := payable(t, ticket{x.h, mirrored})
		slices.Reverse(ok)
		same(t, fmt.Sprint("payable with Mirrored ", x), list(ok), list(payable(t, x)))
	}
}

// more checks that what is payable stays so, and that the range is not less.
func more(t *testing.T, x, y ticket) {
	t.Helper()
	before, after := payable(t, x), payable(t, y)
	for amount, ok := range before {
		if ok && !after[amount] {
			t.Error("not payable any more:", x, y, amount)
		}
	}
	if m, n := rangeOf(t, x), rangeOf(t, y); n < m {
		t.Error("the range is less:", x, y, m, n)
	}
}

func TestP4_10(t *testing.T) {
	r := rand.New(rand.NewSource(2))
	for _, x := range slices.Concat(smallTickets(), someTickets(300)) {
		if x.h < api.MaxPlaces {
			more(t, x, ticket{x.h + 1, x.values})
		}
		v := 1 + r.Intn([]int{8, x.greatest(), api.MaxWorth}[r.Intn(3)])
		if i, there := slices.BinarySearch(x.values, v); !there && len(x.values) < api.MaxStamps {
			more(t, x, ticket{x.h, slices.Insert(slices.Clone(x.values), i, v)})
		}
		if n := rangeOf(t, x); len(x.values) > 1 && x.values[1] > x.h+1 && n > x.h {
			t.Error("the range goes beyond the second value:", x, n)
		}
	}
}

func TestP4_11(t *testing.T) {
	long := 0
	for _, x := range slices.Concat(smallTickets(), someTickets(300)) {
		if len(x.values) == api.MaxStamps {
			continue
		}
		n := rangeOf(t, x)
		v, most, e := stamp.Next(x.h, x.values)
		if most < n || most == n && n < api.MaxWorth || e != api.OK {
			t.Error("Next", x, v, most, n, e)
		}
		if slices.Contains(x.values, v) || v < 1 || v > api.MaxWorth {
			t.Error("Next", x, "adds", v)
		}
		if n >= api.MaxWorth {
			long++
			continue
		}
		i, _ := slices.BinarySearch(x.values, v)
		same(t, fmt.Sprint("the range after Next ", x, v), list(rangeOf(t, ticket{x.h, slices.Insert(slices.Clone(x.values), i, v)})), list(most))
	}
	if long == 0 {
		t.Error("no range is above all values")
	}
}

// odd returns an int that is often at or beyond a limit.
func odd(r *rand.Rand) int {
	some := []int{-1 << 63, -2, -1, 0, 1, 2, 3, 4, 5, 6, 7, 15, 16, 17, 199, 200, 201, 1200, 1201, 1<<62 + 1, 1<<63 - 1}
	return some[r.Intn(len(some))]
}

// calls returns the results of all functions, the error of each last.
func calls(h, k, amount int, values []int) [][]any {
	l1, e1 := stamp.Pay(h, values, amount)
	l2, e2 := stamp.Fewest(h, values)
	n3, e3 := stamp.Range(h, values)
	l4, e4 := stamp.Holes(h, values)
	n5, e5 := stamp.Ways(h, values, amount)
	l6, n6, e6 := stamp.Best(h, k)
	v7, n7, e7 := stamp.Next(h, values)
	l8, e8 := stamp.Mirrored(values)
	n9, e9 := stamp.Greedy(h, values)
	return [][]any{{l1, e1}, {l2, e2}, {n3, e3}, {l4, e4}, {n5, e5}, {l6, n6, e6}, {v7, n7, e7}, {l8, e8}, {n9, e9}}
}

// P1 and P2: whatever the arguments are, each call ends, changes none of them, and returns the same once more; an error comes alone.
func TestAnyArguments(t *testing.T) {
	r := rand.New(rand.NewSource(3))
	for range 1000 {
		h, k, amount := 1+r.Intn(6), 1+r.Intn(4), r.Intn(60)
		values := randomValues(r, r.Intn(8), 20+r.Intn(181))
		for i := range values {
			if r.Intn(12) == 0 {
				values[i] = odd(r)
			}
		}
		if r.Intn(3) == 0 {
			h, k, amount = odd(r), odd(r), odd(r)
		}
		before := fmt.Sprint(values)
		first, second := calls(h, k, amount, values), calls(h, k, amount, values)
		if fmt.Sprint(first) != fmt.Sprint(second) || fmt.Sprint(values) != before {
			t.Fatal("not the same again:", h, k, amount, values, first, second)
		}
		for i, call := range first {
			if e := call[len(call)-1]; e != api.OK {
				refused(t, fmt.Sprint("call ", i), e.(api.Errno), call...)
			}
		}
	}
}

// Rule 4: results are new memory.
func TestMemory(t *testing.T) {
	values := []int{1, 3, 4}
	room := append(slices.Clone(values), 9)[:3]
	before := fmt.Sprint(calls(3, 3, 8, values))
	for range 2 {
		same(t, "all results", list(fmt.Sprint(calls(3, 3, 8, room))), list(before))
		for _, call := range calls(3, 3, 8, room) {
			if l, ok := call[0].([]int); ok {
				for i := range l {
					l[i] = 99
				}
				_ = append(l, 99)
			}
		}
		same(t, "the values and what is behind them", list(room[:4]), list([]int{1, 3, 4, 9}))
	}
}
