package fetch_test

import (
	"fmt"
	"math"
	"math/bits"
	"math/rand"
	"slices"
	"testing"

	"trishaw/api"
	"trishaw/fetch"
)

func cuts(t *testing.T, x quarter) []int {
	t.Helper()
	l, e := fetch.Cuts(x.n, x.streets)
	if e != api.OK {
		t.Fatal("Cuts", x, e)
	}
	return l
}

func mend(t *testing.T, x quarter) []int {
	t.Helper()
	l, e := fetch.Mend(x.n, x.streets)
	if e != api.OK {
		t.Fatal("Mend", x, e)
	}
	return l
}

func apart(t *testing.T, x quarter) []int {
	t.Helper()
	l, e := fetch.Apart(x.n, x.streets)
	if e != api.OK {
		t.Fatal("Apart", x, e)
	}
	return l
}

func strong(t *testing.T, x quarter) bool {
	t.Helper()
	ok, e := fetch.Strong(x.n, x.streets)
	if e != api.OK {
		t.Fatal("Strong", x, e)
	}
	return ok
}

func isMend(t *testing.T, x quarter, list []int) bool {
	t.Helper()
	ok, e := fetch.IsMend(x.n, x.streets, list)
	if e != api.OK {
		t.Fatal("IsMend", x, list, e)
	}
	return ok
}

func TestP9_6(t *testing.T) {
	var sizes [api.MaxArcs]int
	for _, x := range someQuarters(2000, api.MaxArcs) {
		m, a := mend(t, x), apart(t, x)
		sizes[len(m)]++
		same(t, fmt.Sprint("Mend and Apart ", x, m, a), list(len(m)), list(len(a)))
		ok, e := fetch.AreApart(x.n, x.streets, a)
		same(t, fmt.Sprint("a mend, and apart ", x), list(isMend(t, x, m), ok, e), list(true, true, api.OK))
	}
	for size, many := range sizes[:6] {
		if many < 20 {
			t.Error("too few mends of this size:", size, many)
		}
	}
}

func TestP9_7(t *testing.T) {
	yes, no := 0, 0
	for _, x := range append(slices.Concat(someQuarters(200, 7), someQuarters(20, 10)), star(7), path(7)) {
		for _, l := range allLists(x) {
			streets, e := fetch.Both(x.n, x.streets, l)
			if e != api.OK {
				continue
			}
			want := strong(t, quarter{x.n, streets})
			same(t, fmt.Sprint("IsMend ", x, l), list(isMend(t, x, l)), list(want))
			if want {
				yes++
			} else {
				no++
			}
		}
	}
	if yes < 1000 || no < 1000 {
		t.Error("too few lists of either kind:", yes, no)
	}
	for _, x := range someQuarters(1000, api.MaxArcs) {
		want := strong(t, x)
		same(t, fmt.Sprint("no cut, no mend ", x), list(len(cuts(t, x)) == 0, len(mend(t, x)) == 0), list(want, want))
	}
}

func TestP9_8(t *testing.T) {
	meet, join := 0, 0
	for _, x := range someQuarters(1000, api.MaxArcs) {
		all := cuts(t, x)
		for _, a := range all {
			for _, b := range all {
				if a&b != 0 {
					meet++
					same(t, fmt.Sprint("both ", x, a, b), list(slices.Contains(all, a&b)), list(true))
				}
				if a|b != 1<<x.n-1 {
					join++
					same(t, fmt.Sprint("either ", x, a, b), list(slices.Contains(all, a|b)), list(true))
				}
			}
		}
	}
	if meet < 1000 || join < 1000 {
		t.Error("too few cuts:", meet, join)
	}
}

// setOf returns a list as a set.
func setOf(list []int) int {
	set := 0
	for _, i := range list {
		set |= 1 << i
	}
	return set
}

// mendsApart returns how many mends there are at most of which no two have a common street.
func mendsApart(t *testing.T, x quarter) int {
	t.Helper()
	var mends []int
	for _, l := range allLists(x) {
		if isMend(t, x, l) {
			mends = append(mends, setOf(l))
		}
	}
	// The most mends among the streets of each set: the lesser sets come first.
	most := make([]int, 1<<len(x.streets))
	for set := range most {
		for _, m := range mends {
			if m&^set == 0 {
				most[set] = max(most[set], 1+most[set&^m])
			}
		}
	}
	return most[len(most)-1]
}

func TestP9_9(t *testing.T) {
	several, met := 0, 0
	for _, x := range append(slices.Concat(someQuarters(400, 6), someQuarters(100, 8)), quarter{2, slices.Repeat(leading(0, 1), 8)}, path(5).twice()) {
		narrow, _, e := fetch.Smallest(x.n, x.streets)
		if e != api.OK {
			continue
		}
		many := mendsApart(t, x)
		if many > narrow {
			t.Error("mends without a common street", x, many, narrow)
		}
		if many > 1 {
			several++
		}
		if many == narrow {
			met++
		}
	}
	if several < 50 || met < 50 {
		t.Error("too few mends:", several, met)
	}
}

func TestP9_10(t *testing.T) {
	for _, x := range someQuarters(1000, api.MaxArcs) {
		y := x.turned()
		var others []int
		for _, cut := range cuts(t, x) {
			others = append(others, 1<<x.n-1-cut)
		}
		slices.Sort(others)
		same(t, fmt.Sprint("turned ", x), list(cuts(t, y), mend(t, y), len(apart(t, y))), list(others, mend(t, x), len(apart(t, x))))
		a, _, e := fetch.Smallest(x.n, x.streets)
		b, _, f := fetch.Smallest(y.n, y.streets)
		same(t, fmt.Sprint("Smallest turned ", x), list(b, f), list(a, e))
	}
}

// whole returns the set of the corners that are made one to the corners of a set.
func whole(names []int, set int) int {
	more := 0
	for corner, name := range names {
		more |= set >> name & 1 << corner
	}
	return more
}

func TestP9_11Cuts(t *testing.T) {
	some := 0
	for _, x := range someQuarters(500, api.MaxArcs) {
		for i := range x.streets {
			var kept, got []int
			for _, cut := range cuts(t, x) {
				crossing, e := fetch.Crossing(x.n, x.streets, cut)
				if e != api.OK {
					t.Fatal("Crossing", x, cut, e)
				}
				if !slices.Contains(crossing, i) {
					kept = append(kept, cut)
				}
			}
			if y, names := made(x, i); y.n > 1 {
				for _, cut := range cuts(t, y) {
					got = append(got, whole(names, cut))
				}
			}
			slices.Sort(got)
			some += len(got)
			same(t, fmt.Sprint("made one ", x, i), list(got), list(kept))
		}
	}
	if some < 1000 {
		t.Error("too few cuts are left:", some)
	}
}

// contracted makes one the corners of streets that are listed, one street after the other.
func contracted(x quarter, list []int) quarter {
	names := lists(0, x.n, x.n)[0]
	y := x
	for _, i := range list {
		s := api.Pair{A: names[x.streets[i].A], B: names[x.streets[i].B]}
		if s.A == s.B { // left out before
			continue
		}
		next, more := made(y, slices.Index(y.streets, s))
		for corner, name := range names {
			names[corner] = more[name]
		}
		y = next
	}
	return y
}

func TestP9_11Mends(t *testing.T) {
	yes, no := 0, 0
	for _, x := range append(slices.Concat(someQuarters(200, 7), someQuarters(20, 10)), star(7), path(7)) {
		for _, l := range allLists(x) {
			y := contracted(x, l)
			want := y.n == 1 || strong(t, y)
			same(t, fmt.Sprint("IsMend ", x, l), list(isMend(t, x, l)), list(want))
			if !want {
				no++
			} else if y.n > 1 {
				yes++
			}
		}
	}
	if yes < 1000 || no < 1000 {
		t.Error("too few lists of either kind:", yes, no)
	}
}

// odd returns an int that is often at or beyond a limit.
func odd(r *rand.Rand) int {
	some := []int{math.MinInt, -2, -1, 0, 1, 2, 3, 5, 6, 7, 8, 13, 14, 15, 63, 64, 126, 127, 128, 1<<62 + 1, math.MaxInt}
	return some[r.Intn(len(some))]
}

// someOf returns some numbers, mostly ascending, and sometimes another one.
func someOf(r *rand.Rand, numbers []int) []int {
	list := slices.DeleteFunc(slices.Clone(numbers), func(int) bool { return r.Intn(2) == 0 })
	if r.Intn(4) == 0 {
		list = slices.Insert(list, r.Intn(len(list)+1), odd(r))
	}
	return list
}

// P1 and P2: whatever the arguments are, each call ends, changes none of them, and returns the same once more; an error comes alone.
func TestAnyArguments(t *testing.T) {
	r := rand.New(rand.NewSource(4))
	refused := 0
	for _, x := range someQuarters(2000, 9) {
		streets, sets := someOf(r, lists(0, 9, 9)[0]), someOf(r, apart(t, x))
		cut := odd(r)
		switch r.Intn(6) {
		case 0:
			x.streets[r.Intn(len(x.streets))] = api.Pair{A: odd(r), B: odd(r)}
		case 1:
			x.streets = x.streets[1:]
		case 2:
			x.n = odd(r)
		}
		before := fmt.Sprint(x, streets, sets)
		first, second := calls(x, cut, streets, sets), calls(x, cut, streets, sets)
		if fmt.Sprint(first) != fmt.Sprint(second) || fmt.Sprint(x, streets, sets) != before {
			t.Fatal("not the same again:", before, cut, first, second)
		}
		for _, c := range first {
			if c.errno() != api.OK {
				refused++
				if !c.alone() {
					t.Fatal("beside an error:", c)
				}
			}
		}
	}
	if refused < 1000 {
		t.Error("too few errors:", refused)
	}
}

// P1: the quarters with the most cuts, mends and sets of cuts apart, and with all streets that there can be.
func TestGreatest(t *testing.T) {
	r := rand.New(rand.NewSource(5))
	for range 100 {
		x := randomQuarter(r, api.MaxCorners, api.MaxArcs)
		m, a := mend(t, x), apart(t, x)
		same(t, fmt.Sprint("Mend and Apart ", x), list(len(m)), list(len(a)))
	}
	for sources := 1; sources < api.MaxCorners; sources++ {
		x := quarter{n: api.MaxCorners}
		for a := range sources {
			for b := sources; b < api.MaxCorners; b++ {
				x.streets = append(x.streets, api.Pair{A: a, B: b})
			}
		}
		most := max(sources, api.MaxCorners-sources)
		same(t, fmt.Sprint("Mend and Apart ", x), list(len(mend(t, x)), len(apart(t, x)), bits.OnesCount(uint(setOf(mend(t, x))))), list(most, most, most))
	}
}

// Rule 4: results are new memory, and no argument is changed.
func TestMemory(t *testing.T) {
	streets := append(path(4).streets, leading(0, 1, 6, 6)...)
	x := quarter{4, streets[:4]}
	list1, cuts1 := []int{0, 2, 9}, []int{1, 7, 9}
	before := fmt.Sprint(streets, list1, cuts1)
	want := fmt.Sprint(calls(x, 3, list1[:2], cuts1[:2]))
	for range 2 {
		crossing, _ := fetch.Crossing(x.n, x.streets, 1)
		parts, _ := fetch.Parts(x.n, x.streets)
		all := append(parts, cuts(t, x), crossing, mend(t, x), apart(t, x))
		for k, l := range all {
			if len(l) == 0 {
				t.Fatal("an empty list:", all)
			}
			for i := range l {
				l[i] = 900 + k
			}
			_ = append(l, 777)
		}
		for k, l := range all {
			same(t, "a list", list(l), list(slices.Repeat([]int{900 + k}, len(l))))
		}
		for _, l := range [][]int{nil, list1[:2]} {
			both, _ := fetch.Both(x.n, x.streets, l)
			for i := range both {
				both[i] = api.Pair{A: 77, B: 77}
			}
			_ = append(both, api.Pair{A: 77, B: 77})
		}
		same(t, "all results", list(fmt.Sprint(calls(x, 3, list1[:2], cuts1[:2]))), list(want))
		same(t, "the arguments", list(fmt.Sprint(streets, list1, cuts1)), list(before))
	}
}
