package stand

import (
	"strconv"
	"strings"

	"trishaw/api"
)

// What the replies to lines that are no commands begin with.
const (
	badLine = "? line"
	badWord = "? word "
)

const (
	longestName    = 8
	greatestNumber = 1 << 50
)

// isBlank reports whether a line has no words.
func isBlank(line string) bool { return strings.Trim(line, " ") == "" }

// split returns the words of a line; none if it is too long, or has a byte that is not allowed.
func split(line string) []string {
	if len(line) > api.MaxLine || strings.ContainsFunc(line, func(r rune) bool { return r < ' ' || r > '~' }) {
		return nil
	}
	// The stand keeps words, but must not keep the text that they were read from.
	return strings.FieldsFunc(strings.Clone(line), func(r rune) bool { return r == ' ' })
}

func isName(word string) bool {
	if word == "" || len(word) > longestName {
		return false
	}
	return !strings.ContainsFunc(word, func(r rune) bool { return r < 'a' || r > 'z' })
}

// parseNumber returns the number that a word is, and whether it is one.
func parseNumber(word string) (int, bool) {
	n, err := strconv.Atoi(word)
	// Atoi also reads signs and zeros that are not needed.
	if err != nil || strconv.Itoa(n) != word || !within(n, -greatestNumber, greatestNumber) {
		return 0, false
	}
	return n, true
}

// within reports whether a number is from the least one to the greatest one.
func within(n, least, most int) bool { return n >= least && n <= most }

// params are the parameters of a command, which are taken one after the other.
type params struct {
	words  []string
	taken  int
	misfit bool // the command takes another number of parameters
	wrong  int  // the number of the first parameter that is not of its kind, or 0
}

// word takes any word.
func (p *params) word() string {
	if p.taken == len(p.words) {
		p.misfit = true
		return ""
	}
	p.taken++
	return p.words[p.taken-1]
}

// expect is told whether the parameter that was taken last is of its kind.
func (p *params) expect(right bool) {
	if !right && p.wrong == 0 {
		p.wrong = p.taken
	}
}

func (p *params) name() string {
	word := p.word()
	p.expect(isName(word))
	return word
}

func (p *params) number() int {
	n, ok := parseNumber(p.word())
	p.expect(ok)
	return n
}

// rest takes all words that are left.
func (p *params) rest() []string {
	left := p.words[p.taken:]
	p.taken = len(p.words)
	return left
}

// fewWords takes all words that are left, from 1 to the most that are allowed.
func (p *params) fewWords(most int) []string {
	list := p.rest()
	p.misfit = p.misfit || !within(len(list), 1, most)
	return list
}

// fewNumbers takes all numbers that are left, from 1 to the most that are allowed.
func (p *params) fewNumbers(most int) []int {
	var list []int
	for p.taken < len(p.words) {
		list = append(list, p.number())
	}
	p.misfit = p.misfit || !within(len(list), 1, most)
	return list
}

// evenNumbers takes all numbers that are left, an even number of them.
func (p *params) evenNumbers(most int) []int {
	list := p.fewNumbers(most)
	p.misfit = p.misfit || len(list)%2 != 0
	return list
}

// fault returns the reply to parameters that are not what the command takes; otherwise nothing.
func (p *params) fault() string {
	switch {
	case p.misfit || p.taken < len(p.words):
		return badLine
	case p.wrong > 0:
		return badWord + strconv.Itoa(p.wrong)
	default:
		return ""
	}
}
