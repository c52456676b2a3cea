package share

import (
	"cmp"
)

// rate is the ratio of the points that A gives to a thing and the points that B gives to it; either or both may be 0.
type rate struct{ a, b int }

func (r rate) both() int { return r.a + r.b }

// onlyA reports whether nobody but A gives points.
func (r rate) onlyA() bool { return r.a > 0 && r.b == 0 }

// onlyB reports whether nobody but B gives points.
func (r rate) onlyB() bool { return r.b > 0 && r.a == 0 }

// isAbove reports whether a ratio is greater than another one; one of 0 and 0 is neither greater nor less than any.
func (r rate) isAbove(other rate) bool { return r.a*other.b > other.a*r.b }

// compare puts the greater ratio first, and one of 0 and 0 last.
func (r rate) compare(other rate) int {
	wanted := func(r rate) int { return min(1, r.both()) }
	return cmp.Or(cmp.Compare(wanted(other), wanted(r)), cmp.Compare(other.a*r.b, r.a*other.b))
}
