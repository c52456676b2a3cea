package stand_test

import (
	"fmt"
	"math/rand"
	"slices"
	"strconv"
	"strings"
	"testing"

	"trishaw/api"
	"trishaw/stand"
	"trishaw/turn"
)

// driven returns a stand after so many lines of all kinds.
func driven(r *rand.Rand, lines int) *stand.Stand {
	s := stand.New()
	for range 1 + r.Intn(8) {
		s.Exec("hire " + randomName(r) + " " + between(r, 1, 20))
	}
	for range lines {
		s.Exec(randomLine(r))
	}
	return s
}

// hired returns the drivers in the order in which they were hired.
func hired(t *testing.T, s *stand.Stand) (list []api.Driver) {
	t.Helper()
	for _, line := range s.Book() {
		if words := strings.Split(line, " "); words[0] == "hire" {
			d, e := s.Driver(words[1])
			if e != api.OK {
				t.Fatal(line, e)
			}
			list = append(list, d)
		}
	}
	return list
}

// last returns the last number of a reply.
func last(t *testing.T, reply string) int {
	t.Helper()
	words := strings.Split(reply, " ")
	n, err := strconv.Atoi(words[len(words)-1])
	if err != nil || strings.HasPrefix(reply, "!") || strings.HasPrefix(reply, "?") {
		t.Fatal(reply)
	}
	return n
}

func TestP10_11(t *testing.T) {
	r := rand.New(rand.NewSource(2))
	for range 200 {
		s := driven(r, r.Intn(100))
		for range 30 {
			s.Exec(pick(r, "day", randomLine(r)))
			a := s.Audit()
			want := fmt.Sprint("good ", a.Commands, a.Drivers, a.Days, a.Ways, a.Rides, a.Values, a.Earned)
			if !a.Good || s.Exec("audit") != want || a.Commands != len(s.Book()) || a.Drivers != len(hired(t, s)) {
				t.Fatal(s.Book(), a, want)
			}
		}
	}
}

func TestP10_12(t *testing.T) {
	r := rand.New(rand.NewSource(3))
	for range 60 {
		s := driven(r, 0)
		drivers := hired(t, s)
		if len(drivers) == 0 {
			continue
		}
		var shares, called []int
		total := 0
		for _, d := range drivers {
			shares = append(shares, d.Share)
			total += d.Share
		}
		for day := range 1 + r.Intn(400) {
			name := s.Exec(pick(r, "day", "  day "))
			called = append(called, slices.IndexFunc(drivers, func(d api.Driver) bool { return d.Name == name }))
			if r.Intn(10) == 0 {
				for i, d := range hired(t, s) {
					due := (day + 1) * d.Share
					if d.Called < due/total || d.Called > (due+total-1)/total || d.Share != shares[i] {
						t.Fatal(shares, day, d)
					}
				}
			}
		}
		fair, e := turn.Fair(shares, len(called))
		if e != api.OK || !slices.Equal(called, fair) || s.Audit().Days != len(called) {
			t.Fatal(shares, called, fair, e)
		}
	}
}

func TestP10_13Way(t *testing.T) {
	r := rand.New(rand.NewSource(4))
	for range 60 {
		s := stand.New()
		for b := 1; b < 7; b++ {
			s.Exec(fmt.Sprint("way ", r.Intn(b), b, 500+r.Intn(500)))
		}
		cost := last(t, s.Exec("branch"))
		cheaper := 0
		for s.Audit().Ways < api.MaxWays {
			line := fmt.Sprint("way ", r.Intn(7), r.Intn(7), r.Intn(1000))
			doubt := s.Copy()
			doubt.Exec(line)
			s.Exec(line)
			next := last(t, s.Exec("branch"))
			if next > cost || last(t, doubt.Exec("branch")) != next {
				t.Fatal(s.Book(), next, cost)
			}
			if next < cost {
				cheaper++
			}
			cost = next
		}
		if cheaper == 0 {
			t.Error("never cheaper:", s.Book())
		}
	}
}

func TestP10_13Need(t *testing.T) {
	r := rand.New(rand.NewSource(5))
	for range 200 {
		s := driven(r, 20)
		for range 20 {
			hour, count := r.Intn(12), r.Intn(51)
			before := last(t, s.Exec(fmt.Sprint("need ", hour, count)))
			after := last(t, s.Exec(fmt.Sprint("need ", hour, count+r.Intn(51-count))))
			if after < before {
				t.Fatal(s.Book(), before, after)
			}
		}
	}
}

func TestP10_13Stamp(t *testing.T) {
	r := rand.New(rand.NewSource(6))
	for range 200 {
		s := stand.New()
		reach, value := 3, 1
		for range 5 {
			value += 1 + r.Intn(10)
			next := last(t, s.Exec(fmt.Sprint("stamp ", value)))
			if next < reach {
				t.Fatal(s.Book(), reach, next)
			}
			reach = next
			// All amounts up to the range can be paid, and the next one cannot.
			for amount := range reach + 2 {
				if reply := s.Exec(fmt.Sprint("pay ", amount)); strings.HasPrefix(reply, "!") != (amount > reach) {
					t.Fatal(s.Book(), amount, reply)
				}
			}
		}
	}
}

func TestP10_13Ride(t *testing.T) {
	r := rand.New(rand.NewSource(7))
	dearer := 0
	for range 100 {
		s := after("ride " + fmt.Sprint(r.Intn(1001), r.Intn(1001)))
		for s.Audit().Rides < api.MaxToured {
			cost := last(t, s.Exec("tour"))
			height := r.Intn(1001)
			s.Exec(fmt.Sprint("ride ", height, height))
			switch next := last(t, s.Exec("tour")); {
			case next < cost:
				t.Fatal(s.Book(), cost, next)
			case next > cost:
				dearer++
			}
		}
	}
	if dearer == 0 {
		t.Error("never dearer")
	}
}

func TestP10_14(t *testing.T) {
	r := rand.New(rand.NewSource(8))
	for range 150 {
		s := driven(r, r.Intn(150))
		again, n, e := stand.Read(s.Book())
		if n != 0 || e != api.OK || state(again) != state(s) {
			t.Fatal(s.Book(), n, e)
		}
		for range 60 {
			line := randomLine(r)
			if one, two := s.Exec(line), again.Exec(line); one != two {
				t.Fatal(line, one, two)
			}
		}
		if state(again) != state(s) {
			t.Fatal(s.Book(), again.Book())
		}
	}
}

func TestP10_15(t *testing.T) {
	r := rand.New(rand.NewSource(9))
	left, changed := 0, 0
	for range 150 {
		s := driven(r, r.Intn(100))
		for range 40 {
			line := randomLine(r)
			before, book := state(s), s.Book()
			doubt := s.Exec("if " + line)
			if state(s) != before {
				t.Fatal("changed by if", line)
			}
			reply := s.Exec(line)
			if reply != doubt && reply != "" && len(line) <= 297 {
				t.Fatal(line, reply, doubt)
			}
			words := append(strings.Fields(line), "")
			if reply == "" || reply[0] == '?' || reply[0] == '!' || !slices.Contains(changing, words[0]) {
				left++
				if state(s) != before || !slices.Equal(s.Book(), book) {
					t.Fatal("changed by", line, reply)
				}
				continue
			}
			changed++
			if want := append(book, strings.Join(strings.Fields(line), " ")); !slices.Equal(s.Book(), want) || s.Audit().Commands != len(want) {
				t.Fatal(line, s.Book(), want)
			}
		}
	}
	if left < 1000 || changed < 1000 {
		t.Error("too few lines:", left, changed)
	}
}

// P1, P2: all lines end with one reply, which is the same in a stand to which the same has been said.
func TestAnyLines(t *testing.T) {
	r := rand.New(rand.NewSource(10))
	for range 100 {
		one, two := stand.New(), stand.New()
		var text strings.Builder
		replies := ""
		for range 100 {
			line := randomLine(r)
			if r.Intn(4) == 0 {
				line = randomText(r)
			}
			line = strings.ReplaceAll(line, "\n", "")
			text.WriteString(line + "\n")
			if reply := one.Exec(line); reply != "" {
				replies += reply + "\n"
				if strings.Contains(reply, "\n") || strings.Trim(reply, " ") != reply {
					t.Fatalf("%q: %q", line, reply)
				}
			}
			if s, n, e := stand.Read([]string{line}); (e == api.OK) != (s != nil) || (e == api.OK) != (n == 0) {
				t.Fatalf("%q: %v %d %d", line, s, n, e)
			}
		}
		if got := two.Run(text.String()); got != replies || state(one) != state(two) {
			t.Fatalf("%q: %q, %q", text.String(), replies, got)
		}
	}
}

// P10.10: whatever is done to a stand, its copies and their copies, each of them is as its own book says.
func TestCopies(t *testing.T) {
	r := rand.New(rand.NewSource(11))
	for range 30 {
		all := []*stand.Stand{driven(r, r.Intn(30))}
		for range 100 {
			s := pick(r, all...)
			if r.Intn(10) == 0 {
				all = append(all, s.Copy())
			} else {
				s.Exec(randomChange(r))
			}
		}
		for _, s := range all {
			again, n, e := stand.Read(s.Book())
			if e != api.OK || state(again) != state(s) {
				t.Fatal(s.Book(), n, e)
			}
		}
	}
}

// randomText returns words and bytes in any order.
func randomText(r *rand.Rand) (text string) {
	for range r.Intn(20) {
		text += pick(r, append(append([]string{randomWord(r), string([]byte{byte(r.Intn(256))}), strings.Repeat("if ", r.Intn(110))}, changing...), looking...)...) + pick(r, " ", " ", " ", "")
	}
	return text
}

// P1: the commands that take most.
func TestGreatest(t *testing.T) {
	s := after(eight())
	for range 400 {
		s.Exec("day")
	}
	for i := range 30 {
		s.Exec(fmt.Sprint("way ", i%7, (i+1+i%6)%7, 1000))
	}
	for i := range 7 {
		s.Exec(fmt.Sprint("ride ", 100*i, 1000-i))
	}
	for i := range 12 {
		s.Exec(fmt.Sprint("need ", i, 50-i))
	}
	for v := 196; v <= 200; v++ {
		s.Exec(fmt.Sprint("stamp ", v))
	}
	for _, line := range []string{"branch", "narrow", "tour", "shifts", "pay 600", "jam 10 10 10 9 10 8 10 7", "part 13 13 13 13 12 12 12 12 12 12 12 12 13 13 13 13", "round 20 19 18 17 16 15 14 13",
		"mend 01 12 23 34 45 56 60 01 12 23 34 45 56 60", "mend 01 02 03 04 05 06 10 20 30 40 50 60 12 21", "mend 01 02 13 14 25 26 01 02 13 14 25 26 01 02", "audit"} {
		reply := s.Exec("if " + line)
		if strings.HasPrefix(reply, "!") || strings.HasPrefix(reply, "?") || reply != s.Exec(line) {
			t.Error(line, reply)
		}
	}
	replies(t, s, "audit", "good 462 8 400 30 7 6 0")
}

// Rule 4: results are new memory, and no argument is changed or kept.
func TestMemory(t *testing.T) {
	s := after(script)
	before := state(s)
	for range 2 {
		one, two := s.Book(), s.Book()
		for i := range one {
			one[i] = "day"
		}
		_ = append(one, "day")
		if slices.Equal(one, two) || state(s) != before {
			t.Error("changed:", one, two)
		}
	}
	book := append(s.Book(), "fly")[:11]
	again, _, _ := stand.Read(book)
	if want := append(s.Book(), "fly"); !slices.Equal(book[:12], want) {
		t.Error("the argument:", book[:12])
	}
	again.Exec("day")
	if book[:12][11] != "fly" {
		t.Error("the argument:", book[:12])
	}
	for i := range book {
		book[i] = "log"
	}
	if got := again.Book(); !slices.Equal(got, append(s.Book(), "day")) {
		t.Error(got)
	}
}
