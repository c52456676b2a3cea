package stand

import (
	"slices"
	"testing"

	"trishaw/api"
)

// No command makes an audit bad (P10.11), so this test makes stands that no command makes.
func TestP10_10Bad(t *testing.T) {
	ann := func(called int) api.Driver { return api.Driver{Name: "ann", Share: 3, Called: called} }
	bob := func(called int) api.Driver { return api.Driver{Name: "bob", Share: 1, Called: called} }
	for _, c := range []struct {
		drivers []api.Driver
		days    []int
		want    string
	}{
		{[]api.Driver{ann(0), bob(0)}, nil, "good 0 2 0 0 0 1 0"}, {[]api.Driver{ann(3), bob(0)}, []int{0, 0, 0}, "good 0 2 3 0 0 1 0"},
		{[]api.Driver{ann(2), bob(0)}, []int{0, 0, 0}, "bad 0 2 3 0 0 1 0"}, {[]api.Driver{ann(4), bob(0)}, []int{0, 0, 0}, "bad 0 2 3 0 0 1 0"},
		{[]api.Driver{ann(3), bob(1)}, []int{0, 0, 0}, "bad 0 2 3 0 0 1 0"}, {[]api.Driver{ann(1), bob(2)}, []int{0, 1, 0}, "bad 0 2 3 0 0 1 0"},
		// Bob is due once in four days: then the deviation is 1.
		{[]api.Driver{ann(4), bob(0)}, []int{0, 0, 0, 0}, "bad 0 2 4 0 0 1 0"}, {[]api.Driver{ann(3), bob(1)}, []int{0, 0, 0, 1}, "good 0 2 4 0 0 1 0"},
		{[]api.Driver{ann(5), bob(1)}, []int{0, 0, 0, 0, 1, 0}, "bad 0 2 6 0 0 1 0"}, {[]api.Driver{ann(0), bob(2)}, []int{1, 1}, "bad 0 2 2 0 0 1 0"},
	} {
		s := New()
		s.drivers, s.days = c.drivers, c.days
		if got := s.Exec("audit"); got != c.want || s.Audit().Good != (c.want[0] == 'g') {
			t.Errorf("%v: got %q, want %q", c, got, c.want)
		}
	}
}

// A refused command panics with a refusal, and leaves nothing of what it has done until then.
func TestRefusal(t *testing.T) {
	s := New()
	func() {
		defer func() {
			if r, ok := recover().(refusal); !ok || r.number != api.ErrFull {
				t.Error(r, ok)
			}
		}()
		s.book = slices.Repeat([]string{"need 0 0"}, api.MaxBook)
		s.record(needing{0, 1}, []string{"need", "0", "1"})
	}()
	if s.needs != [hours]int{} || len(s.book) != api.MaxBook {
		t.Error(s.needs, len(s.book))
	}
}

// Lists are cut to their length, so that nothing is ever appended where another stand could see it.
func TestCut(t *testing.T) {
	list := []int{1, 2, 3}
	short := cut(list[:2])
	_ = append(short, 9)
	if !slices.Equal(list, []int{1, 2, 3}) || !slices.Equal(short, []int{1, 2}) || cut[int](nil) != nil {
		t.Error(list, short)
	}
}
