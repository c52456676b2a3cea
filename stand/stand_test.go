package stand_test

import (
	"fmt"
	"math/rand"
	"slices"
	"strings"
	"testing"

	"trishaw/api"
	"trishaw/stand"
)

// dialogue is a line and the reply to it.
type dialogue struct{ line, reply string }

// said returns dialogues, each of a line and its reply.
func said(texts ...string) []dialogue {
	var all []dialogue
	for two := range slices.Chunk(texts, 2) {
		all = append(all, dialogue{two[0], two[1]})
	}
	return all
}

// replies checks the replies to lines, one after the other.
func replies(t *testing.T, s *stand.Stand, texts ...string) {
	t.Helper()
	for i, d := range said(texts...) {
		if got := s.Exec(d.line); got != d.reply {
			t.Errorf("line %d %q: got %q, want %q", i+1, d.line, got, d.reply)
		}
	}
}

// alike checks the replies to lines, each in a stand to which the same has been said before.
func alike(t *testing.T, before string, texts ...string) {
	t.Helper()
	for _, d := range said(texts...) {
		s := after(before)
		if got := s.Exec(d.line); got != d.reply {
			t.Errorf("%q: got %q, want %q", d.line, got, d.reply)
		}
	}
}

// after returns a stand after some lines.
func after(lines ...string) *stand.Stand {
	s := stand.New()
	for _, line := range lines {
		s.Run(line)
	}
	return s
}

// all returns lines with the numbers from 0 on in the place of a #.
func all(many int, pattern string) string {
	var lines []string
	for i := range many {
		lines = append(lines, strings.ReplaceAll(pattern, "#", fmt.Sprint(i)))
	}
	return strings.Join(lines, "\n") + "\n"
}

// state returns all that can be seen of a stand without a command that changes it.
func state(s *stand.Stand) string {
	text := fmt.Sprint(s.Book(), s.Audit())
	for _, word := range []string{"log", "branch", "narrow", "tour", "shifts", "audit", "pay 100", "pay 7", "if day", "if hire zoe 1", "if way 0 1 1", "if ride 9 9", "if stamp 200", "if need 0 0"} {
		text += "\n" + s.Exec(word)
	}
	for _, name := range names {
		d, e := s.Driver(name)
		text += fmt.Sprint("\n", d, e)
	}
	return text
}

var names = []string{"ann", "bob", "cat", "dan", "eve", "fay", "guy", "hal", "i", "jonathan"}

// eight hires eight drivers.
func eight() string {
	text := ""
	for i, name := range names[:8] {
		text += fmt.Sprintf("hire %s %d\n", name, 1+i%3)
	}
	return text
}

const script = `hire ann 3
hire bob 1
day
day
day
log
hire cat 1
earn bob 50
way 0 1 5
branch
narrow
ride 0 0
ride 5 5
tour
need 0 2
shifts
stamp 3
pay 5
jam 0 2 1 1
part 60 40 30 70
round 3 1
mend 01 12 23 34 45 56 60
audit
`

func TestExamples(t *testing.T) {
	want := []string{"1", "2", "ann", "ann", "bob", "ann ann bob", "! 9", "50", "ok", "! 10", "0 4", "1", "2", "0 1 / 15", "2",
		"0 0 0 0 0 0 0 0 0 0 0 2", "7", "1 1 3", "2/3 1/3 / 4/3", "1 1/11 / 700/11", "0 0 1 0", "-", "good 11 2 3 1 2 2 50"}
	s := stand.New()
	if got := s.Run(script); got != strings.Join(want, "\n")+"\n" {
		t.Error(got)
	}
	s = stand.New()
	for i, line := range strings.Split(strings.TrimSpace(script), "\n") {
		replies(t, s, line, want[i])
	}
	book := []string{"hire ann 3", "hire bob 1", "day", "day", "day", "earn bob 50", "way 0 1 5", "ride 0 0", "ride 5 5", "need 0 2", "stamp 3"}
	if !slices.Equal(s.Book(), book) {
		t.Error(s.Book())
	}
}

func TestP10_1(t *testing.T) {
	s := stand.New()
	if want := (api.Audit{Values: 1, Good: true}); s.Audit() != want || len(s.Book()) != 0 {
		t.Error(s.Audit(), s.Book())
	}
	replies(t, s, "log", "-", "day", "! 6", "branch", "! 10", "narrow", "0 2", "tour", "! 6", "shifts", "0 0 0 0 0 0 0 0 0 0 0 0", "audit", "good 0 0 0 0 0 1 0")
	// Corners from 0 to 6, all without streets.
	replies(t, s, "way 0 6 1", "ok", "way 6 0 1", "ok", "way 0 7 1", "! 2", "way 7 0 1", "! 2", "way -1 0 1", "! 2", "narrow", "0 2")
	// Up costs 2, and down costs 1.
	replies(t, s, "ride 0 10", "1", "tour", "0 / 10", "ride 20 0", "2", "tour", "0 1 / 20")
	// The value 1 alone, and three places.
	replies(t, s, "pay 0", "-", "pay 3", "1 1 1", "pay 4", "! 4", "stamp 1", "! 4", "stamp 2", "6")
	// Hours from 0 to 11, shifts of four hours.
	replies(t, s, "need 12 1", "! 2", "need -1 1", "! 2", "need 11 1", "1", "need 2 1", "1", "shifts", "0 0 0 0 0 0 0 0 0 0 0 1", "need 3 1", "2", "need 10 0", "2")
}

func TestWords(t *testing.T) {
	far := strings.Repeat(" ", 286)
	alike(t, "hire ann 3",
		"hire bob 1", "2", "  hire bob 1", "2", "hire bob 1   ", "2", "   hire    bob  1  ", "2", "hire bob"+far+"1 ", "2",
		"hirebob 1", "? line", "hire\tbob 1", "? line", "\thire bob 1", "? line", "hire bob 1\t", "? line", "hire bob 1\n", "? line", "hire bob 1\r", "? line",
		"Hire bob 1", "? line", "hir bob 1", "? line", "hires bob 1", "? line", "bob", "? line", "1", "? line", "-", "? line", "?", "? line",
		"", "", " ", "", strings.Repeat(" ", 300), "", strings.Repeat(" ", 301), "", strings.Repeat(" ", 100000), "",
		"\n", "? line", "\t", "? line", "\x00", "? line", " \x1f ", "? line", "\x7f", "? line", "\x80", "? line", "\u00a0", "? line", "\u2003", "? line", "\ufffd", "? line",
	)
	// A line of 300 bytes is not too long.
	for _, c := range []dialogue{{"day", "ann"}, {"hire bob 1", "2"}, {"log", "-"}, {"if day", "ann"}, {"fly", "? line"}, {"hire B 1", "? word 1"}} {
		for long := len(c.line); long <= 310; long++ {
			want := c.reply
			if long > 300 {
				want = "? line"
			}
			for _, line := range []string{c.line + strings.Repeat(" ", long-len(c.line)), strings.Repeat(" ", long-len(c.line)) + c.line} {
				alike(t, "hire ann 3", line, want)
			}
		}
	}
}

func TestBytes(t *testing.T) {
	for b := range 256 {
		text := string([]byte{byte(b)})
		before, inside, behind := "? line", "? line", "? line"
		switch {
		case b == ' ':
			before, inside, behind = "1", "1", "? line"
		case b > 32 && b < 127:
			// A word may have all of these bytes, a name and a number only a few.
			inside, behind = "? word 2", "! 5"
			if b >= '0' && b <= '9' {
				inside = "1"
			}
		}
		alike(t, "", text+"hire ann 1", before, "hire ann 1"+text, inside, "mend "+text, behind)
	}
}

func TestNumbers(t *testing.T) {
	wrong := []string{"-0", "00", "01", "-01", "+1", "+0", "1.", "1.0", ".1", "1e1", "0x1", "0b1", "0o7", "1_0", "-", "--1", "- 1", "1-", "a", "ann", "1a", "a1", "١", "~",
		"1125899906842625", "-1125899906842625", "2251799813685248", "9223372036854775807", "9223372036854775808", "-9223372036854775808", "18446744073709551617", strings.Repeat("9", 200), strings.Repeat("0", 200)}
	for _, word := range wrong {
		want := "? word 1"
		if strings.Contains(word, " ") || word == "١" {
			want = "? line"
		}
		alike(t, "", "pay "+word, want, "stamp "+word, want)
	}
	alike(t, "", "pay 0", "-", "pay 1", "1", "pay -1", "! 4", "pay 10", "! 4", "pay 1125899906842624", "! 4", "pay -1125899906842624", "! 4", "pay 999999999999999", "! 4")
}

func TestNames(t *testing.T) {
	alike(t, "", "hire a 1", "1", "hire z 1", "1", "hire abcdefgh 1", "1", "hire hire 1", "1", "hire if 1", "1",
		"hire abcdefghi 1", "? word 1", "hire A 1", "? word 1", "hire aB 1", "? word 1", "hire a1 1", "? word 1", "hire 1 1", "? word 1", "hire a_b 1", "? word 1", "hire a-b 1", "? word 1",
		"hire ` 1", "? word 1", "hire { 1", "? word 1", "hire a` 1", "? word 1", "hire {a 1", "? word 1", "hire @ 1", "? word 1", "hire [ 1", "? word 1")
}

// First the line, then the words from the first one on, then what the command itself refuses.
func TestFaults(t *testing.T) {
	alike(t, "hire ann 3",
		"fly A 00", "? line", "hire", "? line", "hire bob", "? line", "hire A", "? line", "hire A 00 1", "? line", "hire bob 1 1", "? line", "hire ann 99 1", "? line",
		"hire A 00", "? word 1", "hire A 1", "? word 1", "hire bob 00", "? word 2", "hire ann 00", "? word 2", "earn A 00", "? word 1", "earn bob x", "? word 2",
		"way x y z", "? word 1", "way 0 y z", "? word 2", "way 9 9 z", "? word 3", "way 9 9 9", "! 2", "ride x 1", "? word 1", "ride -1 x", "? word 2",
		"need x 1", "? word 1", "need 99 x", "? word 2", "stamp x", "? word 1", "pay x", "? word 1",
		"jam x", "? line", "jam 99 x", "? word 2", "jam 1 2 3", "? line", "jam 1 1 1 x", "? word 4", "jam 1 1 x x", "? word 3",
		"part x", "? line", "part 1 x", "? word 2", "part 1 1 1 1 1 1 1 1 1 1 1 1 1 1 1 x", "? word 16", "round x", "? word 1", "round 1 99 x", "? word 3", "round 1 1 1 1 1 1 1 x", "? word 8",
	)
}

// Each command takes only so many parameters.
func TestP10_3Counts(t *testing.T) {
	takes := map[string][]int{"hire": {2}, "day": {0}, "earn": {2}, "way": {3}, "ride": {2}, "need": {2}, "stamp": {1}, "log": {0}, "branch": {0}, "narrow": {0}, "tour": {0}, "shifts": {0}, "pay": {1},
		"jam": {2, 4, 6, 8}, "part": {2, 4, 6, 8, 10, 12, 14, 16}, "round": {1, 2, 3, 4, 5, 6, 7, 8}, "mend": {1, 2, 3, 4, 5, 6, 7, 8, 9, 10, 11, 12, 13, 14}, "audit": {0}}
	if len(takes) != len(changing)+len(looking) {
		t.Fatal(len(takes))
	}
	for word, counts := range takes {
		for many := range 40 {
			for _, param := range []string{" 1", " a", " 01", " -1"} {
				reply := after("hire ann 3", "ride 0 5").Exec(word + strings.Repeat(param, many))
				if (reply == "? line") == slices.Contains(counts, many) {
					t.Errorf("%s with %d times%s: %s", word, many, param, reply)
				}
			}
		}
	}
}

func TestP10_4Hire(t *testing.T) {
	replies(t, stand.New(), "hire ann 1", "1", "hire bob 20", "2", "hire ann 1", "! 7", "hire cat 0", "! 2", "hire cat 21", "! 2", "hire cat -5", "! 2", "hire cat 7", "3", "audit", "good 3 3 0 0 0 1 0")
	s := stand.New()
	for i, name := range names[:8] {
		replies(t, s, "hire "+name+" 20", fmt.Sprint(i+1))
	}
	replies(t, s, "hire zoe 1", "! 8", "hire zoe 0", "! 2", "hire ann 1", "! 7", "hire ann 0", "! 7", "day", "ann", "hire zoe 1", "! 9", "hire zoe 0", "! 2", "hire ann 0", "! 7", "audit", "good 9 8 1 0 0 1 0")
	replies(t, after("hire ann 3", "day"), "hire bob 1", "! 9", "hire bob 21", "! 2", "hire ann 21", "! 7")
}

func TestP10_4Day(t *testing.T) {
	replies(t, stand.New(), "day", "! 6", "log", "-", "hire ann 3", "1", "day", "ann", "day", "ann", "log", "ann ann")
	s := after(eight())
	for range 400 {
		if r := s.Exec("day"); !slices.Contains(names, r) {
			t.Fatal(r)
		}
	}
	before := state(s)
	replies(t, s, "day", "! 8", "if day", "! 8", "hire zoe 1", "! 9", "audit", "good 408 8 400 0 0 1 0")
	if state(s) != before {
		t.Error("changed")
	}
	// The order in which they were hired decides, not their names.
	replies(t, after("hire zoe 1\nhire ann 1"), "day", "zoe", "day", "ann", "day", "zoe")
}

func TestP10_4Earn(t *testing.T) {
	s := after("hire ann 3\nhire bob 1")
	replies(t, s, "earn ann 1", "1", "earn bob 1000000", "1000000", "earn ann 1000000", "1000001", "earn bob 1000000", "2000000",
		"earn cat 1", "! 6", "earn cat 0", "! 6", "earn ann 0", "! 2", "earn ann -1", "! 2", "earn ann 1000001", "! 2", "earn ann 1", "1000002", "audit", "good 7 2 0 0 0 1 3000002")
	for _, c := range []struct {
		name string
		want api.Driver
		e    api.Errno
	}{
		{"ann", api.Driver{Name: "ann", Share: 3, Earned: 1000002}, api.OK}, {"bob", api.Driver{Name: "bob", Share: 1, Earned: 2000000}, api.OK},
		{"cat", api.Driver{}, api.ErrNone}, {"", api.Driver{}, api.ErrNone}, {"Ann", api.Driver{}, api.ErrNone}, {"ann ", api.Driver{}, api.ErrNone}, {"an", api.Driver{}, api.ErrNone},
	} {
		if d, e := s.Driver(c.name); d != c.want || e != c.e {
			t.Error(c.name, d, e)
		}
	}
}

func TestP10_4Log(t *testing.T) {
	s := after("hire ann 3\nhire bob 2\nhire cat 1")
	var called []string
	replies(t, s, "log", "-")
	for range 30 {
		called = append(called, s.Exec("day"))
		replies(t, s, "log", strings.Join(called[max(0, len(called)-10):], " "))
	}
}

func TestP10_5(t *testing.T) {
	s := stand.New()
	replies(t, s, "way 0 0 1", "! 2", "way 3 3 0", "! 2", "way 0 1 -1", "! 2", "way 0 1 1001", "! 2", "way 1 0 0", "ok", "way 0 1 1000", "ok", "branch", "! 10", "narrow", "0 4")
	replies(t, s, "way 1 2 1", "ok", "way 2 3 1", "ok", "way 3 4 1", "ok", "way 4 5 1", "ok", "branch", "! 10", "narrow", "0 64", "way 5 6 1", "ok",
		"branch", "1 2 3 4 5 6 / 1005", "narrow", "1 2", "way 0 1 0", "ok", "branch", "2 3 4 5 6 7 / 5", "narrow", "1 4", "audit", "good 8 0 0 8 0 1 0")
	for range 22 {
		replies(t, s, "way 0 1 7", "ok")
	}
	replies(t, s, "way 0 2 1", "! 8", "way 0 7 1", "! 2", "way 0 2 1001", "! 2", "branch", "2 3 4 5 6 7 / 5", "audit", "good 30 0 0 30 0 1 0")
}

func TestP10_6(t *testing.T) {
	s := stand.New()
	replies(t, s, "tour", "! 6", "ride -1 0", "! 2", "ride 0 -1", "! 2", "ride 1001 0", "! 2", "ride 0 1001", "! 2", "tour", "! 6", "ride 0 1000", "1", "tour", "0 / 1000", "ride 1000 0", "2", "tour", "0 1 / 0",
		"ride 500 500", "3", "tour", "0 1 2 / 1500", "ride 0 0", "4", "ride 1 1", "5", "ride 2 2", "6", "tour", "0 1 2 5 4 3 / 1500", "ride 3 3", "7", "ride 4 4", "! 8", "ride 1001 4", "! 2", "ride 4 -1", "! 2",
		"tour", "0 1 2 6 5 4 3 / 1500", "audit", "good 7 0 0 0 7 1 0")
}

func TestP10_7(t *testing.T) {
	s := stand.New()
	replies(t, s, "need 0 -1", "! 2", "need 0 51", "! 2", "need 12 1", "! 2", "need -1 1", "! 2", "need 12 51", "! 2", "shifts", "0 0 0 0 0 0 0 0 0 0 0 0", "need 0 0", "0",
		"need 0 50", "50", "need 4 50", "100", "need 8 50", "150", "shifts", "0 0 0 0 50 0 0 0 50 0 0 50", "need 4 0", "100", "need 8 0", "50", "need 0 3", "3", "shifts", "0 0 0 0 0 0 0 0 0 0 0 3", "need 0 0", "0", "audit", "good 8 0 0 0 0 1 0")
}

func TestP10_8(t *testing.T) {
	s := stand.New()
	replies(t, s, "stamp 1", "! 4", "stamp 0", "! 4", "stamp -3", "! 4", "stamp 201", "! 4", "stamp 4", "6", "pay 6", "1 1 4", "pay 7", "! 10", "pay 8", "4 4", "pay 12", "4 4 4", "pay 13", "! 4", "pay -1", "! 4", "pay 0", "-",
		"stamp 4", "! 4", "stamp 3", "! 4", "stamp 5", "15", "pay 7", "1 1 5", "pay 8", "4 4", "pay 10", "5 5", "stamp 6", "18", "stamp 9", "24", "stamp 200", "24",
		"stamp 200", "! 4", "stamp 7", "! 4", "stamp 201", "! 4", "audit", "good 5 0 0 0 0 6 0")
	s = after("stamp 2\nstamp 3\nstamp 4\nstamp 5\nstamp 6")
	replies(t, s, "stamp 7", "! 8", "stamp 200", "! 8", "stamp 6", "! 4", "stamp 201", "! 4", "pay 18", "6 6 6")
}

func TestP10_9(t *testing.T) {
	alike(t, script,
		"jam 5 1", "1 / 6", "jam 0 1 1 1", "1 0 / 1", "jam 0 1 0 1 0 1", "1/3 1/3 1/3 / 1/3", "jam 0 1 0 2 0 3 0 6", "1/2 1/4 1/6 1/12 / 1/2",
		"jam 0 0", "! 2", "jam 11 1", "! 2", "jam 0 11", "! 2", "jam -1 1", "! 2", "jam 0 1 0 0", "! 2",
		"part 100 100", "1/2 / 50", "part 50 50 50 50", "1 0 / 50", "part 100 0 0 100", "1 0 / 100", "part 0 100 100 0", "0 1 / 100", "part 1 1", "! 2", "part 100 99", "! 2", "part 99 100", "! 2", "part 101 -1 50 50", "! 2", "part 50 50 101 -1", "! 2",
		"round 1", "0", "round 20", "0 0 0 0 0 0 0 0 0 0 0 0 0 0 0 0 0 0 0 0", "round 1 1", "0 1", "round 3 1", "0 0 1 0", "round 0", "! 2", "round 21", "! 2", "round 1 0", "! 2", "round 1 1 1 1 1 1 1 1", "0 1 2 3 4 5 6 7",
		"mend 01 12 23 34 45 56", "0 1 2 3 4 5", "mend 01 12 23 34 45 56 60", "-", "mend 60 06 01 12 23 34 45", "2 3 4 5 6",
		"mend 07", "! 5", "mend 70", "! 5", "mend 0", "! 5", "mend 012", "! 5", "mend 0a", "! 5", "mend -1", "! 5", "mend 0-", "! 5", "mend 0/", "! 5", "mend /0", "! 5", "mend +1", "! 5",
		"mend 01", "! 9", "mend 00", "! 2", "mend 01 12 23 34 45 55", "! 2", "mend 01 12 23 34 45 50", "! 9",
		// What is no street at all comes before what is no street of the quarter.
		"mend 00 07", "! 5", "mend 07 00", "! 5", "mend 01 7", "! 5", "mend 01 12 23 34 45 56 60 01 12 23 34 45 56 60", "-",
	)
}

func TestP10_10If(t *testing.T) {
	s := after(script)
	before := state(s)
	replies(t, s, "if day", "ann", "if hire ann 1", "! 7", "if hire cat 1", "! 9", "if earn ann 5", "5", "if earn bob 5", "55", "if earn cat 5", "! 6", "if way 0 2 1", "ok", "if way 0 7 1", "! 2", "if ride 7 7", "3", "if need 6 3", "5", "if stamp 4", "12", "if stamp 3", "! 4",
		"if log", "ann ann bob", "if branch", "! 10", "if narrow", "0 4", "if tour", "0 1 / 15", "if shifts", "0 0 0 0 0 0 0 0 0 0 0 2", "if pay 5", "1 1 3", "if jam 5 1", "1 / 6", "if part 100 100", "1/2 / 50", "if round 1 1", "0 1", "if mend 01", "! 9", "if audit", "good 11 2 3 1 2 2 50",
		"if", "? line", "if if", "? line", "if fly", "? line", "if day 1", "? line", "if hire Ann 1", "? word 1", "if earn ann 01", "? word 2", "if if if earn ann x", "? word 2", "if if day", "ann", "  if   if  if    earn ann   5 ", "5")
	most := strings.Repeat("if ", 99)
	replies(t, s, most+"day", "ann", "if "+most+"day", "? line", most+"if", "? line", most+"earn ann 7", "? line", most+"fly", "? line", most+"log", "ann ann bob")
	if got := state(s); got != before {
		t.Errorf("before:\n%s\nafter:\n%s", before, got)
	}
}

func TestP10_10Book(t *testing.T) {
	s := after(script)
	replies(t, s, "  earn   ann  7 ", "7", "earn ann 0", "! 2", "fly", "? line", "if earn ann 8", "15", "log", "ann ann bob", " ", "")
	if b := s.Book(); len(b) != 12 || b[11] != "earn ann 7" {
		t.Error(b)
	}
	// All commands that change the stand come into the book, and they all are there in their order.
	lines := []string{"hire ann 3", "need 0 0", "way 0 1 5", "hire bob 1", "day", "earn ann 1", "ride 0 0", "stamp 2", "day", "need 0 0"}
	if b := after(lines...).Book(); !slices.Equal(b, lines) {
		t.Error(b)
	}
}

// full returns a stand whose book is full.
func full() *stand.Stand {
	s := after(script)
	for i := len(s.Book()); i < 2000; i++ {
		s.Exec("need 3 " + fmt.Sprint(i%7))
	}
	return s
}

func TestFullBook(t *testing.T) {
	s := full()
	if len(s.Book()) != 2000 {
		t.Fatal(len(s.Book()))
	}
	before := state(s)
	replies(t, s, "day", "! 8", "earn ann 1", "! 8", "way 0 1 1", "! 8", "ride 1 1", "! 8", "need 0 0", "! 8", "stamp 200", "! 8",
		"hire ann 0", "! 7", "hire cat 0", "! 2", "hire cat 1", "! 9", "earn cat 1", "! 6", "earn ann 0", "! 2", "way 0 0 0", "! 2", "ride -1 0", "! 2", "need 12 0", "! 2", "stamp 1", "! 4",
		"if day", "! 8", "if earn ann 0", "! 2", "log", "ann ann bob", "pay 5", "1 1 3", "audit", "good 2000 2 3 1 2 2 50", "day 1", "? line", "earn ann x", "? word 2")
	if state(s) != before {
		t.Error("changed")
	}
	again, n, e := stand.Read(s.Book())
	if n != 0 || e != api.OK || state(again) != before {
		t.Error(n, e)
	}
	for line, want := range map[string]api.Errno{"day": api.ErrFull, "need 0 0": api.ErrFull, "need 12 0": api.ErrArg, "hire ann 1": api.ErrExists, "log": api.ErrForm, "": api.ErrForm, "if day": api.ErrForm} {
		if s, n, e := stand.Read(append(s.Book(), line, "fly")); s != nil || n != 2001 || e != want {
			t.Error(line, s, n, e)
		}
	}
	// One command less leaves room for just one more.
	s, _, _ = stand.Read(again.Book()[:1999])
	replies(t, s, "if day", "ann", "day", "ann", "day", "! 8", "hire cat 1", "! 9")
}

func TestP10_10Read(t *testing.T) {
	for _, book := range [][]string{nil, {}} {
		s, n, e := stand.Read(book)
		if n != 0 || e != api.OK || state(s) != state(stand.New()) {
			t.Error(s, n, e)
		}
	}
	s, n, e := stand.Read([]string{"  hire  ann   3 ", "day"})
	if n != 0 || e != api.OK || !slices.Equal(s.Book(), []string{"hire ann 3", "day"}) {
		t.Error(s, n, e)
	}
	for _, c := range []struct {
		line string
		want api.Errno
	}{
		{"hire ann 1", api.ErrExists}, {"hire bob 0", api.ErrArg}, {"hire bob 1", api.ErrState}, {"earn bob 1", api.ErrNone}, {"stamp 1", api.ErrRange}, {"way 0 7 1", api.ErrArg}, {"ride 0 -1", api.ErrArg}, {"need 12 0", api.ErrArg},
		{"", api.ErrForm}, {"  ", api.ErrForm}, {strings.Repeat(" ", 301), api.ErrForm}, {"fly", api.ErrForm}, {"day 1", api.ErrForm}, {"hire Bob 1", api.ErrForm}, {"earn ann 01", api.ErrForm}, {"day\n", api.ErrForm}, {"day\nday", api.ErrForm}, {"day" + strings.Repeat(" ", 298), api.ErrForm},
		{"if day", api.ErrForm}, {"if", api.ErrForm}, {"if log", api.ErrForm}, {"if fly", api.ErrForm}, {"if hire ann 1", api.ErrForm},
		{"log", api.ErrForm}, {"branch", api.ErrForm}, {"narrow", api.ErrForm}, {"tour", api.ErrForm}, {"shifts", api.ErrForm}, {"pay 0", api.ErrForm}, {"pay 9", api.ErrForm}, {"jam 5 1", api.ErrForm}, {"jam 0 0", api.ErrForm}, {"part 100 100", api.ErrForm}, {"round 1", api.ErrForm}, {"mend 01", api.ErrForm}, {"audit", api.ErrForm},
	} {
		for _, more := range [][]string{nil, {"day"}, {"fly"}} {
			book := append([]string{"hire ann 3", "day", c.line}, more...)
			if s, n, e := stand.Read(book); s != nil || n != 3 || e != c.want {
				t.Errorf("%q: %v %d %d", c.line, s, n, e)
			}
		}
	}
	if s, n, e := stand.Read([]string{"day"}); s != nil || n != 1 || e != api.ErrNone {
		t.Error(s, n, e)
	}
}

func TestP10_10Run(t *testing.T) {
	for _, c := range []dialogue{
		{"", ""}, {"\n", ""}, {"\n\n \n", ""}, {"log", "-\n"}, {"log\n", "-\n"}, {"\nlog", "-\n"}, {"log\n\nlog\n  \nlog", "-\n-\n-\n"}, {"fly\nhire A 1\nday\n", "? line\n? word 1\n! 6\n"},
		{"log\r\nlog", "? line\n-\n"}, {"hire ann 3\nday\nlog", "1\nann\nann\n"}, {strings.Repeat(" ", 1000) + "\nlog\n" + strings.Repeat("a", 1000), "-\n? line\n"},
	} {
		if r := stand.New().Run(c.line); r != c.reply {
			t.Errorf("%q: %q", c.line, r)
		}
	}
}

func TestP10_10Audit(t *testing.T) {
	s := after(script)
	want := api.Audit{Commands: 11, Drivers: 2, Days: 3, Ways: 1, Rides: 2, Values: 2, Earned: 50, Good: true}
	if s.Audit() != want {
		t.Error(s.Audit())
	}
	for name, want := range map[string]api.Driver{"ann": {Name: "ann", Share: 3, Called: 2}, "bob": {Name: "bob", Share: 1, Called: 1, Earned: 50}} {
		if d, e := s.Driver(name); d != want || e != api.OK {
			t.Error(d, e)
		}
	}
}

func TestP10_10Copy(t *testing.T) {
	s := after(eight(), "day", "way 0 1 5\nride 0 0\nneed 0 2\nstamp 3\nearn ann 5")
	for _, change := range []string{"day", "earn ann 9", "way 0 2 7", "ride 5 5", "need 0 9", "stamp 4"} {
		a, b := s.Copy(), s.Copy()
		before := state(s)
		if state(a) != before {
			t.Fatal("not the same:", change)
		}
		// What is done to one of them is not done to the others.
		a.Exec(change)
		b.Exec("earn bob 1")
		c := a.Copy()
		if state(s) != before || state(a) == before || state(b) == state(a) || state(c) != state(a) {
			t.Error(change)
		}
		changed := state(c)
		a.Exec("way 6 5 4")
		s.Exec("way 5 6 7")
		if state(c) != changed || state(a) == changed {
			t.Error(change)
		}
	}
}

// Rule 3: of a nil or zero stand.
func TestNil(t *testing.T) {
	var none *stand.Stand
	for _, s := range []*stand.Stand{none, {}, new(stand.Stand)} {
		for _, line := range append(strings.Split(script, "\n"), "fly", "hire A 1", "if day") {
			if r := s.Exec(line); r != "" {
				t.Error(line, r)
			}
		}
		d, e := s.Driver("ann")
		if s.Run(script) != "" || len(s.Book()) != 0 || d != (api.Driver{}) || e != api.ErrNil || s.Audit() != (api.Audit{}) || s.Copy() != nil {
			t.Error(s)
		}
	}
}

// All commands with all that they take and do not take, compared with a stand that only keeps its book.
func TestLikeReference(t *testing.T) {
	r := rand.New(rand.NewSource(1))
	seen := map[string]int{}
	kinds := []string{"? line", "? word", "! 2", "! 4", "! 5", "! 6", "! 7", "! 8", "! 9", "! 10", "ok", "good", "-"}
	for range 200 {
		s, want := stand.New(), &slow{}
		if r.Intn(3) == 0 {
			want.exec("hire " + randomName(r) + " 5")
			s.Exec(want.book[0])
		}
		for range 150 {
			line := randomLine(r)
			reply, wanted := s.Exec(line), want.exec(line)
			if reply != wanted {
				t.Fatalf("after %q\n%q: got %q, want %q", want.book, line, reply, wanted)
			}
			for _, kind := range kinds {
				if strings.HasPrefix(reply, kind) {
					seen[kind]++
				}
			}
		}
		if !slices.Equal(s.Book(), want.book) || s.Audit() != want.audit() {
			t.Fatal(s.Book(), want.book, s.Audit(), want.audit())
		}
		for _, name := range names {
			d, e := s.Driver(name)
			wanted, there := want.driver(name)
			if d != wanted || (e == api.OK) != there {
				t.Fatal(name, d, e, wanted)
			}
		}
	}
	for _, kind := range kinds {
		if seen[kind] < 20 {
			t.Error("too few replies:", kind, seen[kind])
		}
	}
}
