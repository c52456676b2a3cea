package stand

import (
	"strconv"
	"strings"

	"trishaw/api"
)

// refusal is what a refused command panics with.
type refusal struct{ number api.Errno }

// refuse ends a command with an error.
func refuse(e api.Errno) {
	if e != api.OK {
		panic(refusal{e})
	}
}

// refuseIf ends a command with an error if there is a reason to.
func refuseIf(reason bool, e api.Errno) {
	if reason {
		refuse(e)
	}
}

// answer executes the command that words make, and returns its reply.
func (s *Stand) answer(words []string) string {
	c, fault := parse(words)
	if fault != "" {
		return fault
	}
	reply, e := s.do(c, words)
	if e != api.OK {
		return "! " + strconv.Itoa(int(e))
	}
	return reply
}

// redo executes a line of a book.
func (s *Stand) redo(line string) api.Errno {
	words := split(line)
	c, fault := parse(words)
	if fault != "" || !changes(c) {
		return api.ErrForm
	}
	_, e := s.do(c, words)
	return e
}

// do executes a command, and returns its reply, or the error with which it is refused.
func (s *Stand) do(c any, words []string) (reply string, e api.Errno) {
	defer func() {
		if r, ok := recover().(refusal); ok {
			reply, e = "", r.number
		}
	}()
	if changes(c) {
		return s.record(c, words), api.OK
	}
	return s.look(c), api.OK
}

// record changes the stand, and adds the command to the book. All is done on a copy first, so that a refused command leaves nothing.
func (s *Stand) record(c any, words []string) string {
	next := s.Copy()
	reply := next.change(c)
	refuseIf(len(next.book) == api.MaxBook, api.ErrFull)
	next.book = append(next.book, strings.Join(words, " "))
	*s = *next
	return reply
}
