package branch_test

import (
	"fmt"
	"math/rand"
	"slices"
	"testing"

	"trishaw/api"
	"trishaw/branch"
)

// cheapest returns what Branching and Dear cost; false if there is no branching.
func cheapest(t *testing.T, x town) (least, most int, ok bool) {
	t.Helper()
	_, least, e := branch.Branching(x.n, x.ways)
	_, most, f := branch.Dear(x.n, x.ways)
	if e != f || e != api.OK && e != api.ErrPlan {
		t.Fatal("Branching and Dear", x, e, f)
	}
	return least, most, e == api.OK
}

// Proof is a proof, and is worth what Branching costs.
func TestP3_6(t *testing.T) {
	towns := slices.Concat(someTowns(400, api.MaxWays), someTowns(400, 12))
	deep := 0
	for _, x := range append(towns, fullTown()) {
		least, _, ok := cheapest(t, x)
		proof, e := branch.Proof(x.n, x.ways)
		if !ok {
			same(t, fmt.Sprint("Proof ", x), list(len(proof), e), list(0, api.ErrPlan))
			continue
		}
		worth, proves, f := branch.Proves(x.n, x.ways, proof)
		same(t, fmt.Sprint("Proof ", x, proof), list(e, worth, proves, f), list(api.OK, least, true, api.OK))
		same(t, fmt.Sprint("worth of Proof ", x, proof), list(slowProves(x.n, x.ways, proof)), list(least))
		if slices.ContainsFunc(proof, func(p api.Price) bool { return p.Set&(p.Set-1) != 0 }) {
			deep++
		}
	}
	if deep < 100 {
		t.Error("too few proofs price a ring:", deep)
	}
}

// Of all proofs for towns with three corners none is worth more than the cheapest branching.
func TestP3_6All(t *testing.T) {
	r := rand.New(rand.NewSource(4))
	for range 60 {
		x := randomTown(r, 3, 2+r.Intn(5), 4)
		least, _, ok := cheapest(t, x)
		if !ok {
			continue
		}
		most := 0
		for code := range 6 * 6 * 6 {
			var proof []api.Price
			for k, worth := range []int{code % 6, code / 6 % 6, code / 36} {
				if worth > 0 {
					proof = append(proof, api.Price{Set: 2 * (k + 1), Worth: worth})
				}
			}
			worth, _, _ := branch.Proves(x.n, x.ways, proof)
			most = max(most, worth)
		}
		same(t, fmt.Sprint("the greatest worth of a proof ", x), list(most), list(least))
	}
}

func TestP3_7(t *testing.T) {
	for _, x := range append(slices.Concat(someTowns(300, api.MaxWays), someTowns(300, 12)), fullTown()) {
		many, e := branch.Count(x.n, x.ways)
		same(t, fmt.Sprint("Count ", x), list(many, e), list(slowDeterminant(tutte(x.n, x.ways)), api.OK))
	}
}

func TestP3_8(t *testing.T) {
	for _, x := range someTowns(100, 9) {
		many, _, _ := branch.Narrow(x.n, x.ways)
		same(t, fmt.Sprint("the most branchings apart ", x), list(many), list(slowApart(allBranchings(x.n, x.ways))))
		apart(t, x, many)
	}
	r := rand.New(rand.NewSource(5))
	wide := 0
	for i := range 600 {
		x := wideTown(r, 2+i%(api.MaxCorners-1), api.MaxWays)
		many, _, _ := branch.Narrow(x.n, x.ways)
		apart(t, x, many)
		if x.n > 4 && many > 2 {
			wide++
		}
	}
	if wide < 100 {
		t.Error("too few towns have many branchings apart:", wide)
	}
}

func TestP3_9(t *testing.T) {
	none := 0
	for _, x := range slices.Concat(someTowns(300, api.MaxWays), someTowns(300, 8)) {
		_, _, ok := cheapest(t, x)
		reached, _ := branch.Reach(x.n, x.ways)
		width, _, _ := branch.Narrow(x.n, x.ways)
		many, _ := branch.Count(x.n, x.ways)
		same(t, fmt.Sprint("reached, narrow, counted ", x), list(reached == 1<<x.n-1, width > 0, many > 0), list(ok, ok, ok))
		if !ok {
			none++
		}
	}
	if none < 100 {
		t.Error("too few towns are without a branching:", none)
	}
}

// All streets to one corner cost more, by the same.
func TestP3_10(t *testing.T) {
	r := rand.New(rand.NewSource(6))
	for _, x := range someTowns(150, 16) {
		if _, _, ok := cheapest(t, x); !ok {
			continue
		}
		more := town{x.n, slices.Clone(x.ways)}
		corner, room := 1+r.Intn(x.n-1), api.MaxToll
		for _, w := range x.ways {
			if w.B == corner {
				room = min(room, api.MaxToll-w.Cost)
			}
		}
		rise := r.Intn(room + 1)
		for i, w := range x.ways {
			if w.B == corner {
				more.ways[i].Cost += rise
			}
		}
		l, c, e := branch.Branching(x.n, x.ways)
		l2, c2, e2 := branch.Branching(x.n, more.ways)
		same(t, fmt.Sprint("Branching ", more), list(l2, c2, e2), list(l, c+rise, e))
		l, c, e = branch.Dear(x.n, x.ways)
		l2, c2, e2 = branch.Dear(x.n, more.ways)
		same(t, fmt.Sprint("Dear ", more), list(l2, c2, e2), list(l, c+rise, e))
	}
}

// Dear is Branching of what the costs lack.
func TestP3_10Dear(t *testing.T) {
	for _, x := range append(someTowns(150, api.MaxWays), fullTown()) {
		if _, _, ok := cheapest(t, x); !ok {
			continue
		}
		lack := slices.Clone(x.ways)
		for i := range lack {
			lack[i].Cost = api.MaxToll - lack[i].Cost
		}
		l, c, e := branch.Branching(x.n, lack)
		l2, c2, e2 := branch.Dear(x.n, x.ways)
		same(t, fmt.Sprint("Dear ", x), list(l2, c2, e2), list(l, (x.n-1)*api.MaxToll-c, e))
	}
}

func TestP3_11(t *testing.T) {
	r := rand.New(rand.NewSource(7))
	for _, x := range someTowns(300, api.MaxWays-1) {
		least, most, ok := cheapest(t, x)
		width, _, _ := branch.Narrow(x.n, x.ways)
		x.ways = slices.Insert(slices.Clone(x.ways), r.Intn(len(x.ways)+1), randomWay(r, x.n, 20))
		less, more, still := cheapest(t, x)
		wider, _, _ := branch.Narrow(x.n, x.ways)
		if ok && (!still || less > least || more < most) || wider < width {
			t.Error("with a street more:", x, least, most, width, less, more, wider)
		}
	}
}

// odd returns an int that is often at or beyond a limit.
func odd(r *rand.Rand) int {
	some := []int{-1 << 63, -2, -1, 0, 1, 2, 3, 6, 7, 8, 9, 30, 31, 64, 127, 128, 1000, 1001, 1<<63 - 1}
	return some[r.Intn(len(some))]
}

// P1 and P2: whatever the arguments are, each call ends, changes none of them, and returns the same once more; an error comes alone.
func TestAnyArguments(t *testing.T) {
	r := rand.New(rand.NewSource(8))
	for range 20000 {
		x := randomTown(r, 2+r.Intn(6), r.Intn(12), 5)
		if r.Intn(3) == 0 && len(x.ways) > 0 {
			x.ways[r.Intn(len(x.ways))] = api.Way{A: odd(r), B: odd(r), Cost: odd(r)}
		}
		if r.Intn(4) == 0 {
			x.n = odd(r)
		}
		l, proof := make([]int, r.Intn(8)), make([]api.Price, r.Intn(4))
		for i := range l {
			l[i] = i + r.Intn(2)*odd(r)
		}
		for i := range proof {
			proof[i] = api.Price{Set: odd(r), Worth: odd(r)}
		}
		set := odd(r)
		before := fmt.Sprint(x, l, proof)
		first, second := calls(x.n, x.ways, l, proof, set), calls(x.n, x.ways, l, proof, set)
		if fmt.Sprint(first) != fmt.Sprint(second) || fmt.Sprint(x, l, proof) != before {
			t.Fatal("not the same again:", before, first, second)
		}
		for _, c := range first {
			if c.errno() != api.OK && !c.alone() {
				t.Fatal("beside an error:", c)
			}
		}
	}
}

// Rule 4: results are new memory.
func TestMemory(t *testing.T) {
	ways := slices.Repeat([]api.Way{{A: 0, B: 1, Cost: 1}, {A: 0, B: 2, Cost: 1}}, 3)
	before := fmt.Sprint(calls(3, ways, nil, nil, 6))
	for range 2 {
		a, _, _ := branch.Branching(3, ways)
		b, _, _ := branch.Dear(3, ways)
		c, _ := branch.Entering(3, ways, 6)
		d, _ := branch.Apart(3, ways)
		proof, _ := branch.Proof(3, ways)
		clear(proof)
		for k, l := range append([][]int{a, b, c}, d...) {
			for i := range l {
				l[i] = 90 + k
			}
			_ = append(l, 99)
		}
		for k, l := range d {
			same(t, "a list of Apart", list(l), list([]int{93 + k, 93 + k}))
		}
		same(t, "all results", list(fmt.Sprint(calls(3, ways, nil, nil, 6))), list(before))
	}
}
