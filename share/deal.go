package share

import (
	"trishaw/api"
	"trishaw/ratio"
)

// deal is the points of both drivers for each thing.
type deal []rate

func newDeal(a, b []int) deal {
	d := make(deal, len(a))
	for i := range d {
		d[i] = rate{a[i], b[i]}
	}
	return d
}

// scores returns the score of A and that of B.
func (d deal) scores(parts api.Parts) (api.Ratio, api.Ratio) {
	a, b := 0, 0
	for i, x := range parts.Nums {
		a += d[i].a * x
		b += d[i].b * (parts.Den - x)
	}
	return ratio.Lowest(a, parts.Den), ratio.Lowest(b, parts.Den)
}

// winner returns the parts with which A has the things of the greatest ratios, and as great a score as B.
func (d deal) winner() api.Parts {
	things := sorted(indices(len(d)), func(i int) rate { return d[i] }, rate.compare)
	// At first B has all. A thing that goes to A lessens B's lead by the points of both; all things lessen it by twice as much as it is.
	lead, whole := api.MaxPoints, 0
	for lead >= d[things[whole]].both() {
		lead -= d[things[whole]].both()
		whole++
	}
	den := d[things[whole]].both()
	nums := make([]int, len(d))
	for _, i := range things[:whole] {
		nums[i] = den
	}
	nums[things[whole]] = lead
	return ratio.Parts(nums, den)
}

// efficient reports whether no other parts are better for one driver and not worse for the other one.
func (d deal) efficient(parts api.Parts) bool {
	for i, x := range parts.Nums {
		if x > 0 && d[i].onlyB() || x < parts.Den && d[i].onlyA() {
			return false
		}
		for k, y := range parts.Nums {
			// For a little of the thing k, A gives so much of the thing i that neither is worse off, and one is better off.
			if x > 0 && y < parts.Den && d[k].isAbove(d[i]) {
				return false
			}
		}
	}
	return true
}

// whole returns the least set of things for A with which the lesser score is greatest, and this score.
func (d deal) whole() (int, int) {
	best := greatest(indices(1<<len(d)), d.lesser)
	return best.thing, best.order
}

// lesser returns the lesser one of both scores if A has a set of things.
func (d deal) lesser(set int) int {
	a, b := 0, 0
	for i, r := range d {
		if set>>i&1 == 1 {
			a += r.a
		} else {
			b += r.b
		}
	}
	return min(a, b)
}
