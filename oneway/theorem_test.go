package oneway_test

import (
	"fmt"
	"math/rand"
	"slices"
	"testing"

	"trishaw/api"
	"trishaw/oneway"
)

func count(t *testing.T, x quarter) (strong, loose int) {
	t.Helper()
	strong, loose, e := oneway.Count(x.n, x.streets)
	if e != api.OK {
		t.Fatal("Count", x, e)
	}
	return strong, loose
}

func bridges(t *testing.T, x quarter) []int {
	t.Helper()
	l, e := oneway.Bridges(x.n, x.streets)
	if e != api.OK {
		t.Fatal("Bridges", x, e)
	}
	return l
}

// strong reports whether signs are strong.
func strong(t *testing.T, x quarter, signs string) bool {
	t.Helper()
	ok, e := oneway.Strong(x.n, x.streets, signs)
	if e != api.OK {
		t.Fatal("Strong", x, signs, e)
	}
	return ok
}

func TestP5_8(t *testing.T) {
	found := 0
	for _, x := range slices.Concat(someQuarters(500, 7), someQuarters(60, api.MaxStreets)) {
		want := connected(x) && len(bridges(t, x)) == 0
		signs, e := oneway.First(x.n, x.streets)
		_, f := oneway.Ears(x.n, x.streets)
		many, _ := count(t, x)
		same(t, fmt.Sprint("First, Ears and Count ", x), list(e == api.OK, f == api.OK, many > 0), list(want, want, want))
		if want {
			found++
			same(t, fmt.Sprint("Strong ", x, signs), list(strong(t, x, signs)), list(true))
		}
	}
	if found < 100 {
		t.Error("too few quarters can be made one-way:", found)
	}
}

// contracted returns a quarter with a street contracted, and how many other streets joined its corners.
func contracted(x quarter, street int) (quarter, int) {
	gone := x.streets[street]
	least, most := min(gone.A, gone.B), max(gone.A, gone.B)
	renamed := func(corner int) int {
		switch {
		case corner == most:
			return least
		case corner > most:
			return corner - 1
		}
		return corner
	}
	y, others := quarter{n: x.n - 1}, -1
	for _, s := range x.streets {
		if a, b := renamed(s.A), renamed(s.B); a != b {
			y.streets = append(y.streets, api.Pair{A: a, B: b})
		} else {
			others++
		}
	}
	return y, others
}

func TestP5_9(t *testing.T) {
	several := 0
	for _, x := range append(slices.Concat(someQuarters(300, 8), someQuarters(16, api.MaxStreets)), complete(5)) {
		cut := bridges(t, x)
		strong, loose := count(t, x)
		for i := range x.streets {
			y, others := contracted(x, i)
			lessStrong, lessLoose := count(t, x.without(i))
			oneStrong, oneLoose := count(t, y)
			if others > 0 {
				several++
				oneLoose = 0
			}
			same(t, fmt.Sprint("Count without rounds ", x, i), list(loose), list(lessLoose+oneLoose))
			if !slices.Contains(cut, i) {
				same(t, fmt.Sprint("Count of strong signs ", x, i), list(strong), list(lessStrong+oneStrong<<others))
			}
		}
	}
	if several < 100 {
		t.Error("too few streets are there twice:", several)
	}
}

// onRound reports whether a round trip has a street: Rounds then begins with it, if it is the first one.
func onRound(t *testing.T, x quarter, signs string, street int) bool {
	t.Helper()
	streets := append([]api.Pair{x.streets[street]}, x.without(street).streets...)
	l, e := oneway.Rounds(x.n, streets, signs[street:street+1]+signs[:street]+signs[street+1:])
	return e == api.OK && l[0] == 0
}

// leavesOnly reports whether a street leads out of a set of corners that no street leads into.
func leavesOnly(x quarter, signs string, street int) bool {
	for set := range 1 << x.n {
		leads := func(i int, in, out int) bool {
			return set>>from(x.streets[i], signs[i])&1 == in && set>>to(x.streets[i], signs[i])&1 == out
		}
		entered := false
		for i := range x.streets {
			entered = entered || leads(i, 0, 1)
		}
		if !entered && leads(street, 1, 0) {
			return true
		}
	}
	return false
}

func TestP5_10(t *testing.T) {
	r := rand.New(rand.NewSource(4))
	for _, x := range slices.Concat(someQuarters(200, 9), someQuarters(60, api.MaxStreets)) {
		signs := randomSigns(r, len(x.streets))
		_, e := oneway.Rounds(x.n, x.streets, signs)
		same(t, fmt.Sprint("Rounds ", x, signs), list(e == api.ErrPlan), list(slowLoose(x, signs)))
		for i := range x.streets {
			same(t, fmt.Sprint("either ", x, signs, i), list(onRound(t, x, signs, i)), list(!leavesOnly(x, signs, i)))
		}
	}
	for _, x := range someQuarters(100, 7) {
		none := 0
		for _, signs := range everySigns(len(x.streets)) {
			if _, e := oneway.Rounds(x.n, x.streets, signs); e == api.ErrPlan {
				none++
			}
		}
		_, loose := count(t, x)
		same(t, fmt.Sprint("signs without rounds ", x), list(loose), list(none))
	}
}

func TestP5_11(t *testing.T) {
	even := 0
	for _, x := range append(someQuarters(1500, api.MaxStreets), complete(5), eight(), ring(7).twice()) {
		signs, e := oneway.Even(x.n, x.streets)
		if e != api.OK || len(signs) != len(x.streets) || !slowEven(x, signs) {
			t.Error("Even", x, signs, e)
			continue
		}
		meet := make([]int, x.n)
		for _, s := range x.streets {
			meet[s.A]++
			meet[s.B]++
		}
		if !slices.ContainsFunc(meet, func(many int) bool { return many%2 == 1 }) {
			even++
			same(t, fmt.Sprint("Even ", x, signs), list(more(x, signs)), list(make([]int, x.n)))
		}
	}
	if even < 200 {
		t.Error("too few quarters where an even number of streets meet:", even)
	}
}

// another returns signs that differ from others, mostly along round trips.
func another(r *rand.Rand, x quarter, a string) string {
	b := []byte(a)
	for range 1 + r.Intn(3) {
		l, e := oneway.Rounds(x.n, x.streets, string(b))
		if e != api.OK || r.Intn(5) == 0 {
			return randomSigns(r, len(a))
		}
		for _, i := range l {
			b[i] = '<' + '>' - b[i]
		}
	}
	return string(b)
}

func TestP5_12(t *testing.T) {
	r := rand.New(rand.NewSource(5))
	equal, kept := 0, 0
	for _, x := range someQuarters(1500, api.MaxStreets) {
		a := randomSigns(r, len(x.streets))
		if s, e := oneway.First(x.n, x.streets); e == api.OK && len(x.streets) < 10 {
			a = s
		}
		for _, b := range []string{another(r, x, a), turn(a), a} {
			if !slices.Equal(more(x, a), more(x, b)) {
				differ(t, x, a, b, api.ErrPlan)
				continue
			}
			differ(t, x, a, b, api.OK)
			if a != b {
				equal++
			}
			if strong(t, x, a) {
				kept++
				same(t, fmt.Sprint("Strong ", x, a, b), list(strong(t, x, b)), list(true))
			}
		}
	}
	if equal < 200 || kept < 200 {
		t.Error("too few signs with the same entries, or strong ones:", equal, kept)
	}
}

func TestP5_13(t *testing.T) {
	r := rand.New(rand.NewSource(6))
	found := 0
	for _, x := range someQuarters(1500, api.MaxStreets) {
		signs := randomSigns(r, len(x.streets))
		same(t, fmt.Sprint("Strong turned ", x, signs), list(strong(t, x, turn(signs))), list(strong(t, x, signs)))
		m, e := oneway.Width(x.n, x.streets, signs)
		n, f := oneway.Width(x.n, x.streets, turn(signs))
		same(t, fmt.Sprint("Width turned ", x, signs), list(n, f), list(m, e))
		if e == api.OK && len(signs) > 0 {
			found++
		}
	}
	if found < 100 {
		t.Error("too few signs are strong:", found)
	}
}

// odd returns an int that is often at or beyond a limit.
func odd(r *rand.Rand) int {
	some := []int{-1 << 63, -2, -1, 0, 1, 2, 3, 5, 6, 7, 8, 13, 14, 15, 63, 64, 1<<62 + 1, 1<<63 - 1}
	return some[r.Intn(len(some))]
}

// oddSigns returns signs of so many streets, or something else.
func oddSigns(r *rand.Rand, many int) string {
	signs := randomSigns(r, many)
	if r.Intn(3) > 0 || many == 0 {
		return signs
	}
	k := r.Intn(many)
	return signs[:k] + []string{"", "=", ">", "<>", "\xff", "\u226a"}[r.Intn(6)] + signs[k+r.Intn(2):]
}

// P1 and P2: whatever the arguments are, each call ends, changes none of them, and returns the same once more; an error comes alone.
func TestAnyArguments(t *testing.T) {
	r := rand.New(rand.NewSource(7))
	for range 4000 {
		x := randomQuarter(r, 1+r.Intn(api.MaxCorners), r.Intn(8))
		lists := make([][]int, r.Intn(4))
		for i := range lists {
			lists[i] = r.Perm(8)[:r.Intn(4)]
			if r.Intn(4) == 0 {
				lists[i] = append(lists[i], odd(r))
			}
		}
		a, b := oddSigns(r, len(x.streets)), oddSigns(r, len(x.streets))
		if r.Intn(4) == 0 && len(x.streets) > 0 {
			x.streets[r.Intn(len(x.streets))] = api.Pair{A: odd(r), B: odd(r)}
		}
		if r.Intn(4) == 0 {
			x.n = odd(r)
		}
		before := fmt.Sprint(x, lists)
		first, second := calls(x, lists, a, b), calls(x, lists, a, b)
		if fmt.Sprint(first) != fmt.Sprint(second) || fmt.Sprint(x, lists) != before {
			t.Fatal("not the same again:", before, a, b, first, second)
		}
		for _, c := range first {
			if c.errno() != api.OK && !c.alone() {
				t.Fatal("beside an error:", c)
			}
		}
	}
}

// P2: what the goroutines have counted does not depend on which of them ends first.
func TestCountAgain(t *testing.T) {
	x := quarter{4, joined(0, 1, 1, 2, 2, 3, 3, 0, 0, 2, 1, 0)}
	strong, loose := count(t, x)
	for range 2000 {
		m, n := count(t, x)
		if m != strong || n != loose {
			t.Fatal("Count", m, n, strong, loose)
		}
	}
}

// Rule 4: results are new memory.
func TestMemory(t *testing.T) {
	x := quarter{5, append(eight().streets, joined(1, 4, 4, 1, 0, 0)...)[:8]}
	behind := x.streets[:9]
	lists := [][]int{{0, 1, 2}, {3, 4, 5}, {6}, {7}}
	a, b := ">>>>>>>>", "<<<<<<<<"
	before := fmt.Sprint(calls(x, lists, a, b))
	for range 2 {
		d, _ := oneway.Differ(x.n, x.streets, a, b)
		e, _ := oneway.Ears(x.n, x.streets)
		f, _ := oneway.Bridges(7, x.streets[2:3])
		g, _ := oneway.Rounds(x.n, x.streets, a)
		all := slices.Concat(d, e, [][]int{f, g})
		if len(d) != 3 || len(e) != 4 || len(f) != 1 {
			t.Fatal(d, e, f)
		}
		for k, l := range all {
			for i := range l {
				l[i] = 90 + k
			}
			_ = append(l, 99)
		}
		for k, l := range all {
			same(t, "a list", list(l), list(slices.Repeat([]int{90 + k}, len(l))))
		}
		same(t, "all results", list(fmt.Sprint(calls(x, lists, a, b))), list(before))
		same(t, "what is behind the streets", list(behind[8]), list(api.Pair{}))
	}
}
