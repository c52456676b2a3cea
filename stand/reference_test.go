package stand_test

import (
	"fmt"
	"math/big"
	"math/rand"
	"regexp"
	"strconv"
	"strings"

	"trishaw/api"
	"trishaw/branch"
	"trishaw/fetch"
	"trishaw/jam"
	"trishaw/share"
	"trishaw/shift"
	"trishaw/stamp"
	"trishaw/trip"
	"trishaw/turn"
)

// What the chapter defines, written down once more: a stand that keeps its book only, and reads all of it again for every reply.

type slow struct{ book []string }

// kinds has, for each command, a pattern of the kinds of its parameters: N is a name, D a number, W any word.
var kinds = map[string]string{
	"hire": "ND", "day": "", "earn": "ND", "way": "DDD", "ride": "DD", "need": "DD", "stamp": "D",
	"log": "", "branch": "", "narrow": "", "tour": "", "shifts": "", "pay": "D",
	"jam": "(DD){1,4}", "part": "(DD){1,8}", "round": "D{1,8}", "mend": "W{1,14}", "audit": "", "if": "W+",
}

var (
	changing = []string{"hire", "day", "earn", "way", "ride", "need", "stamp"}
	looking  = []string{"log", "branch", "narrow", "tour", "shifts", "pay", "jam", "part", "round", "mend", "audit"}
)

var (
	blanks     = regexp.MustCompile(`^ *$`)
	allowed    = regexp.MustCompile(`^[ -~]{0,300}$`)
	wordForm   = regexp.MustCompile(`[^ ]+`)
	nameForm   = regexp.MustCompile(`^[a-z]{1,8}$`)
	numberForm = regexp.MustCompile(`^(0|-?[1-9][0-9]*)$`)
	streetForm = regexp.MustCompile(`^[0-6][0-6]$`)
)

func isNumber(word string) bool {
	n, ok := new(big.Int).SetString(word, 10)
	return ok && numberForm.MatchString(word) && n.CmpAbs(new(big.Int).Lsh(big.NewInt(1), 50)) <= 0
}

func (s *slow) exec(line string) string {
	switch words := wordForm.FindAllString(line, -1); {
	case blanks.MatchString(line):
		return ""
	case !allowed.MatchString(line):
		return "? line"
	default:
		return s.execute(words)
	}
}

func (s *slow) execute(words []string) string {
	kind, ok := kinds[words[0]]
	if !ok || !fits(kind, len(words)-1) {
		return "? line"
	}
	if words[0] == "if" {
		return (&slow{append([]string{}, s.book...)}).execute(words[1:])
	}
	var nums []int
	for i, word := range words[1:] {
		switch {
		case strings.HasPrefix(kind, "W"), kind == "ND" && i == 0 && nameForm.MatchString(word):
		case (kind != "ND" || i > 0) && isNumber(word):
			n, _ := strconv.Atoi(word)
			nums = append(nums, n)
		default:
			return fmt.Sprint("? word ", i+1)
		}
	}
	reply, e := s.changed(words, nums)
	if e == api.OK && has(changing, words[0]) {
		if len(s.book) == 2000 {
			return "! 8"
		}
		s.book = append(s.book, strings.Join(words, " "))
		return reply
	}
	if e == api.OK {
		reply, e = s.looked(words, nums)
	}
	if e != api.OK {
		return fmt.Sprint("! ", int(e))
	}
	return reply
}

// fits reports whether so many parameters are of a pattern, whatever their kinds are.
func fits(kind string, many int) bool {
	pattern := regexp.MustCompile(`[NDW]`).ReplaceAllString(kind, "x")
	return regexp.MustCompile("^(" + pattern + ")$").MatchString(strings.Repeat("x", many))
}

func has(list []string, word string) bool {
	for _, x := range list {
		if x == word {
			return true
		}
	}
	return false
}

// read returns the parameters of all commands of one name in the book.
func (s *slow) read(name string) (params [][]string) {
	for _, line := range s.book {
		if words := strings.Split(line, " "); words[0] == name {
			params = append(params, words[1:])
		}
	}
	return params
}

// numbers returns the numbers of all commands of one name in the book.
func (s *slow) numbers(name string) (rows [][]int) {
	for _, params := range s.read(name) {
		var row []int
		for _, word := range params {
			n, _ := strconv.Atoi(word)
			row = append(row, n)
		}
		rows = append(rows, row)
	}
	return rows
}

func (s *slow) days() []int {
	days, _ := turn.Fair(s.shares(), len(s.read("day")))
	return days
}

func (s *slow) shares() (list []int) {
	for _, row := range s.numbers("hire") {
		list = append(list, row[1])
	}
	return list
}

func (s *slow) drivers() (list []api.Driver) {
	for i, params := range s.read("hire") {
		d := api.Driver{Name: params[0], Share: s.shares()[i]}
		for _, day := range s.days() {
			if day == i {
				d.Called++
			}
		}
		for k, paid := range s.read("earn") {
			if paid[0] == d.Name {
				d.Earned += s.numbers("earn")[k][1]
			}
		}
		list = append(list, d)
	}
	return list
}

func (s *slow) driver(name string) (api.Driver, bool) {
	for _, d := range s.drivers() {
		if d.Name == name {
			return d, true
		}
	}
	return api.Driver{}, false
}

func (s *slow) ways() (list []api.Way) {
	for _, row := range s.numbers("way") {
		list = append(list, api.Way{A: row[0], B: row[1], Cost: row[2]})
	}
	return list
}

func (s *slow) rides() (list []api.Ride) {
	for _, row := range s.numbers("ride") {
		list = append(list, api.Ride{From: row[0], To: row[1]})
	}
	return list
}

func (s *slow) needs() []int {
	list := make([]int, 12)
	for _, row := range s.numbers("need") {
		list[row[0]] = row[1]
	}
	return list
}

func (s *slow) values() []int {
	list := []int{1}
	for _, row := range s.numbers("stamp") {
		list = append(list, row[0])
	}
	return list
}

func (s *slow) audit() api.Audit {
	a := api.Audit{Commands: len(s.book), Days: len(s.read("day")), Ways: len(s.ways()), Rides: len(s.rides()), Values: len(s.values()), Good: true}
	for _, d := range s.drivers() {
		a.Drivers++
		a.Earned += d.Earned
	}
	return a
}

// outside reports whether a number is not from the least one to the greatest one.
func outside(n, least, most int) bool { return n < least || n > most }

// first returns the error of the first reason that is true.
func first(reasons []bool, errors ...api.Errno) api.Errno {
	for i, reason := range reasons {
		if reason {
			return errors[i]
		}
	}
	return api.OK
}

// after returns a stand after one more command.
func (s *slow) after(words []string) *slow {
	return &slow{append(append([]string{}, s.book...), strings.Join(words, " "))}
}

// changed returns the reply to a command that changes the stand, or its error; nothing for others.
func (s *slow) changed(words []string, nums []int) (string, api.Errno) {
	next := s.after(words)
	switch words[0] {
	case "hire":
		_, there := s.driver(words[1])
		e := first([]bool{there, outside(nums[0], 1, 20), len(s.read("day")) > 0, len(s.read("hire")) >= 8}, api.ErrExists, api.ErrArg, api.ErrState, api.ErrFull)
		return fmt.Sprint(len(next.read("hire"))), e
	case "day":
		if e := first([]bool{len(s.read("hire")) == 0, len(s.read("day")) >= 400}, api.ErrNone, api.ErrFull); e != api.OK {
			return "", e
		}
		days := next.days()
		return s.read("hire")[days[len(days)-1]][0], api.OK
	case "earn":
		_, there := s.driver(words[1])
		if e := first([]bool{!there, outside(nums[0], 1, 1000000)}, api.ErrNone, api.ErrArg); e != api.OK {
			return "", e
		}
		d, _ := next.driver(words[1])
		return fmt.Sprint(d.Earned), api.OK
	case "way":
		wrong := outside(nums[0], 0, 6) || outside(nums[1], 0, 6) || nums[0] == nums[1] || outside(nums[2], 0, 1000)
		return "ok", first([]bool{wrong, len(s.ways()) >= 30}, api.ErrArg, api.ErrFull)
	case "ride":
		wrong := outside(nums[0], 0, 1000) || outside(nums[1], 0, 1000)
		return fmt.Sprint(len(next.rides())), first([]bool{wrong, len(s.rides()) >= 7}, api.ErrArg, api.ErrFull)
	case "need":
		if outside(nums[0], 0, 11) || outside(nums[1], 0, 50) {
			return "", api.ErrArg
		}
		least, e := shift.Least(next.needs(), 4)
		return fmt.Sprint(least), e
	case "stamp":
		values := s.values()
		if e := first([]bool{nums[0] <= values[len(values)-1] || nums[0] > 200, len(values) >= 6}, api.ErrRange, api.ErrFull); e != api.OK {
			return "", e
		}
		n, e := stamp.Range(3, next.values())
		return fmt.Sprint(n), e
	}
	return "", api.OK
}

// plain returns a list as its elements with blanks between.
func plain(list any) string {
	text := strings.Trim(fmt.Sprint(list), "[]")
	if text == "" {
		return "-"
	}
	return text
}

// lowest returns num / den as the document writes it.
func lowest(num, den int) string {
	return strings.TrimSuffix(big.NewRat(int64(num), int64(den)).String(), "/1")
}

func slowParts(p api.Parts) string {
	var texts []string
	for _, num := range p.Nums {
		texts = append(texts, lowest(num, p.Den))
	}
	return plain(texts)
}

// looked returns the reply to a command that only looks at the stand, or its error.
func (s *slow) looked(words []string, nums []int) (string, api.Errno) {
	switch words[0] {
	case "log":
		var names []string
		for _, i := range s.days() {
			names = append(names, s.read("hire")[i][0])
		}
		return plain(names[max(0, len(names)-10):]), api.OK
	case "branch":
		list, cost, e := branch.Branching(7, s.ways())
		return fmt.Sprint(plain(list), " / ", cost), e
	case "narrow":
		width, set, e := branch.Narrow(7, s.ways())
		return fmt.Sprint(width, set), e
	case "tour":
		if len(s.rides()) == 0 {
			return "", api.ErrNone
		}
		order, cost, e := trip.Tour(s.rides(), api.Slope{Up: 2, Down: 1})
		return fmt.Sprint(plain(order), " / ", cost), e
	case "shifts":
		plan, e := shift.Plan(s.needs(), 4)
		return plain(plan), e
	case "pay":
		list, e := stamp.Pay(3, s.values(), nums[0])
		return plain(list), e
	case "audit":
		return "good " + strings.TrimSuffix(plain(s.audit()), " true}")[1:], api.OK
	}
	return others(words, nums)
}

// others returns the reply to a command that does not look at the stand at all, or its error.
func others(words []string, nums []int) (string, api.Errno) {
	switch words[0] {
	case "jam":
		lanes := make([]api.Lane, len(nums)/2)
		for i := range lanes {
			lanes[i] = api.Lane{A: nums[2*i], B: nums[2*i+1]}
		}
		parts, time, e := jam.Balance(lanes)
		if e != api.OK {
			return "", e
		}
		return slowParts(parts) + " / " + lowest(time.Num, time.Den), e
	case "part":
		parts, score, e := share.Winner(nums[:len(nums)/2], nums[len(nums)/2:])
		if e != api.OK {
			return "", e
		}
		return slowParts(parts) + " / " + lowest(score.Num, score.Den), e
	case "round":
		days, e := turn.Round(nums)
		return plain(days), e
	}
	var streets []api.Pair
	for _, word := range words[1:] {
		if !streetForm.MatchString(word) {
			return "", api.ErrForm
		}
		streets = append(streets, api.Pair{A: int(word[0] - '0'), B: int(word[1] - '0')})
	}
	list, e := fetch.Mend(7, streets)
	return plain(list), e
}

// pick returns one of several values.
func pick[T any](r *rand.Rand, list ...T) T { return list[r.Intn(len(list))] }

// between returns a number in the limits, and now and then one just outside of them.
func between(r *rand.Rand, least, most int) string {
	if r.Intn(20) == 0 {
		return fmt.Sprint(pick(r, least-1, most+1, -1<<50, 1<<50))
	}
	return fmt.Sprint(least + r.Intn(most-least+1))
}

func randomName(r *rand.Rand) string {
	return pick(r, "ann", "bob", "cat", "dan", "eve", "fay", "guy", "hal", "i", "jonathan")
}

// randomChange returns a command that changes the stand, if it is not refused.
func randomChange(r *rand.Rand) string {
	switch pick(r, changing...) {
	case "hire":
		return "hire " + randomName(r) + " " + between(r, 1, 20)
	case "earn":
		return "earn " + randomName(r) + " " + between(r, 1, 1000000)
	case "way":
		return "way " + between(r, 0, 6) + " " + between(r, 0, 6) + " " + between(r, 0, pick(r, 3, 1000))
	case "ride":
		return "ride " + between(r, 0, pick(r, 5, 1000)) + " " + between(r, 0, pick(r, 5, 1000))
	case "need":
		return "need " + between(r, 0, 11) + " " + between(r, 0, pick(r, 3, 50))
	case "stamp":
		return "stamp " + between(r, 1, pick(r, 10, 40, 200))
	}
	return "day"
}

// randomPoints returns numbers that sum to 100, most of the time.
func randomPoints(r *rand.Rand, many int) (text string) {
	left := 100
	for i := range many {
		n := r.Intn(left + 1)
		if i == many-1 && r.Intn(20) > 0 {
			n = left
		}
		left -= n
		text += fmt.Sprint(" ", n)
	}
	return text
}

// randomLook returns a command that only looks.
func randomLook(r *rand.Rand) string {
	word := pick(r, looking...)
	text := word
	switch word {
	case "pay":
		text += " " + between(r, 0, pick(r, 10, 100, 600))
	case "jam":
		for range 1 + r.Intn(4) {
			text += " " + between(r, 0, 10) + " " + between(r, 1, 10)
		}
	case "part":
		many := 1 + r.Intn(8)
		text += randomPoints(r, many) + randomPoints(r, many)
	case "round":
		for range 1 + r.Intn(4) {
			text += " " + between(r, 1, 20)
		}
	case "mend":
		// A ring of all corners, or a part of it, and streets beside it.
		text += strings.Repeat(pick(r, " 10", " 01", ""), r.Intn(3)) + pick(r, " 01 12 23 34 45 56", " 01 02 03 04 05 06", " 65 06 16 26 36 46")
		for range r.Intn(6) {
			text += " " + between(r, 0, 6)[:1] + between(r, 0, 6)
		}
	}
	return text
}

// randomLine returns any line: a command, one with a fault, or one with no sense at all.
func randomLine(r *rand.Rand) string {
	line := randomChange(r)
	if r.Intn(3) == 0 {
		line = randomLook(r)
	}
	if r.Intn(5) == 0 {
		line = strings.Repeat("if ", 1+r.Intn(3)) + line
	}
	if r.Intn(8) == 0 {
		line = strings.ReplaceAll("  "+line+" ", " ", strings.Repeat(" ", 1+r.Intn(3)))
	}
	switch r.Intn(30) {
	case 0:
		return line + " " + randomWord(r)
	case 1:
		words := strings.Split(line, " ")
		words[r.Intn(len(words))] = randomWord(r)
		return strings.Join(words, " ")
	case 2:
		return strings.Repeat(" ", r.Intn(400)) + pick(r, "", line)
	case 3:
		at := r.Intn(len(line) + 1)
		return line[:at] + string([]byte{byte(r.Intn(256))}) + line[at:]
	}
	return line
}

func randomWord(r *rand.Rand) string {
	return pick(r, "", "0", "-0", "00", "01", "+1", "-1", "1_0", "0x1", "1.", "1e1", "ann", "Ann", "ann1", "annabelle", "abcdefgh", "hire", "if", "mend", "audit",
		"1125899906842624", "1125899906842625", "-1125899906842624", "-1125899906842625", "9223372036854775808", strings.Repeat("9", 40), "~", "!", "07", "66", "é", "\t", "\x7f")
}
