package trip_test

import (
	"fmt"
	"math/rand"
	"slices"
	"testing"

	"trishaw/api"
	"trishaw/trip"
)

func least(t *testing.T, x hill) int {
	t.Helper()
	cost, e := trip.Least(x.rides, x.slope)
	if e != api.OK {
		t.Fatal("Least", x, e)
	}
	return cost
}

func matching(t *testing.T, x hill) int {
	t.Helper()
	_, cost, e := trip.Matching(x.rides, x.slope)
	if e != api.OK {
		t.Fatal("Matching", x, e)
	}
	return cost
}

func rings(t *testing.T, x hill) int {
	t.Helper()
	l, e := trip.Rings(x.rides)
	if e != api.OK {
		t.Fatal("Rings", x, e)
	}
	return len(l)
}

func TestP6_6(t *testing.T) {
	for _, x := range someHills(1000, api.MaxRides) {
		same(t, fmt.Sprint("Least ", x), list(least(t, x)), list(leastOrder(x)))
	}
	for _, x := range someHills(1000, api.MaxToured) {
		order, cost, e := trip.Tour(x.rides, x.slope)
		same(t, fmt.Sprint("Tour ", x), list(cost, e), list(least(t, x), api.OK))
		again, e := trip.Cost(x.rides, x.slope, order)
		same(t, fmt.Sprint("Cost ", x, order), list(again, e), list(cost, api.OK))
	}
	orders := allOrders(5)
	for _, x := range someHills(400, 5) {
		for _, order := range orders {
			if len(x.rides) < 5 {
				break
			}
			if cost, e := trip.Cost(x.rides, x.slope, order); e != api.OK || cost < least(t, x) {
				t.Error("Cost", x, order, cost, e)
			}
		}
	}
}

func TestP6_7(t *testing.T) {
	one := 0
	for _, x := range someHills(800, api.MaxRides) {
		same(t, fmt.Sprint("Matching ", x), list(matching(t, x)), list(leastMatching(x)))
	}
	for _, x := range someHills(1500, api.MaxToured) {
		_, cost, e := trip.Tour(x.rides, x.slope)
		if e != api.OK || cost < matching(t, x) {
			t.Error("Tour costs less than Matching:", x, cost, e)
		}
		if len(x.rides) > 1 && rings(t, x) == 1 {
			one++
			same(t, fmt.Sprint("Tour with one ring ", x), list(cost), list(matching(t, x)))
		}
	}
	if one < 50 {
		t.Error("too few days with one ring:", one)
	}
}

func TestP6_8(t *testing.T) {
	for _, x := range someHills(300, api.MaxRides) {
		sum := 0
		for h := 1; h <= api.MaxHeight; h++ {
			up, down, e := trip.Level(x.rides, h)
			if e != api.OK {
				t.Fatal("Level", x, h, e)
			}
			if down > up {
				sum += x.slope.Up * (down - up)
			} else {
				sum += x.slope.Down * (up - down)
			}
		}
		same(t, fmt.Sprint("Matching ", x), list(matching(t, x)), list(sum))
	}
}

func TestP6_9(t *testing.T) {
	r := rand.New(rand.NewSource(4))
	for _, x := range someHills(1500, api.MaxRides) {
		same(t, fmt.Sprint("Least turned ", x), list(least(t, turned(x))), list(least(t, x)))
		high := max(slices.Max(starts(x)), slices.Max(ends(x)))
		y := raised(x, r.Intn(api.MaxHeight-high+1))
		n := len(x.rides)
		m := more{r.Perm(n), r.Intn(n), r.Intn(n), 0}
		same(t, fmt.Sprint("raised ", x), list(slopeCalls(y, m)), list(slopeCalls(x, m)))
	}
	for _, x := range someHills(200, api.MaxToured) {
		_, cost, _ := trip.Tour(x.rides, x.slope)
		y := turned(x)
		_, other, e := trip.Tour(y.rides, y.slope)
		same(t, fmt.Sprint("Tour turned ", x), list(other, e), list(cost, api.OK))
	}
}

func TestP6_10(t *testing.T) {
	for _, x := range append(someHills(3000, api.MaxRides), hill{make([]api.Ride, 9), api.Slope{}}) {
		l, sum, e := trip.Patches(x.rides, x.slope)
		same(t, fmt.Sprint("Patches ", x), list(len(l), e), list(rings(t, x)-1, api.OK))
		gaps, _ := trip.Gaps(x.rides, x.slope)
		for _, k := range l {
			sum -= gaps[k]
		}
		same(t, fmt.Sprint("the sum of Patches ", x), list(sum), list(0))
	}
}

// odd returns an int that is often at or beyond a limit.
func odd(r *rand.Rand) int {
	some := []int{-1 << 63, -1001, -1, 0, 1, 2, 7, 8, 9, 10, 500, 999, 1000, 1001, 1<<62 + 1, 1<<63 - 1}
	return some[r.Intn(len(some))]
}

// P1 and P2: whatever the arguments are, each call ends, changes none of them, and returns the same once more; an error comes alone.
func TestAnyArguments(t *testing.T) {
	r := rand.New(rand.NewSource(5))
	for range 4000 {
		x := randomHill(r, r.Intn(11), 1000)
		n := len(x.rides)
		m := more{r.Perm(n), r.Intn(n + 1), r.Intn(n + 1), r.Intn(1001)}
		switch r.Intn(6) {
		case 0:
			m = more{append(r.Perm(n), odd(r))[:r.Intn(n+2)], odd(r), odd(r), odd(r)}
		case 1:
			x.slope = api.Slope{Up: odd(r), Down: odd(r)}
		case 2:
			x.rides = append(x.rides, api.Ride{From: odd(r), To: odd(r)})
		}
		before := fmt.Sprint(x, m)
		first, second := calls(x, m), calls(x, m)
		if fmt.Sprint(first) != fmt.Sprint(second) || fmt.Sprint(x, m) != before {
			t.Fatal("not the same again:", before, first, second)
		}
		for _, c := range first {
			if c.errno() != api.OK && !c.alone() {
				t.Fatal("beside an error:", c)
			}
		}
	}
}

// Rule 4: results are new memory.
func TestMemory(t *testing.T) {
	x := hill{rides(0, 4, 2, 2, 4, 0, 9, 9, 7, 8, 99, 99)[:5], api.Slope{Up: 2, Down: 1}}
	m := more{[]int{4, 3, 2, 1, 0}, 1, 2, 3}
	before := fmt.Sprint(calls(x, m))
	for range 2 {
		a, _, _ := trip.Matching(x.rides, x.slope)
		b, _ := trip.Rings(x.rides)
		c, _ := trip.Gaps(x.rides, x.slope)
		d, _, _ := trip.Patches(x.rides, x.slope)
		e, _, _ := trip.Tour(x.rides, x.slope)
		if len(b) != 4 || len(d) != 3 {
			t.Fatal(b, d)
		}
		all := slices.Concat(b, [][]int{a, c, d, e})
		for k, l := range all {
			for i := range l {
				l[i] = 90 + k
			}
			_ = append(l, 99)
		}
		for k, l := range all {
			same(t, "a list", list(l), list(slices.Repeat([]int{90 + k}, len(l))))
		}
		same(t, "all results", list(fmt.Sprint(calls(x, m))), list(before))
		same(t, "what is behind the rides", list(x.rides[:6][5]), list(api.Ride{From: 99, To: 99}))
	}
}
