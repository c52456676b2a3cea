package stand

import (
	"trishaw/api"
)

// The commands that change the stand.
type (
	hiring struct {
		name  string
		share int
	}
	calling struct{}
	earning struct {
		name   string
		amount int
	}
	paving   struct{ way api.Way }
	riding   struct{ ride api.Ride }
	needing  struct{ hour, count int }
	stamping struct{ value int }
)

// The commands that only look at it.
type (
	logging   struct{}
	branching struct{}
	narrowing struct{}
	touring   struct{}
	shifting  struct{}
	paying    struct{ amount int }
	jamming   struct{ lanes []int }
	parting   struct{ points []int }
	rounding  struct{ shares []int }
	mending   struct{ streets []string }
	auditing  struct{}
	wondering struct{ words []string }
)

// parse returns the command that words make; if they make none, it returns the reply to them.
func parse(words []string) (any, string) {
	if len(words) == 0 {
		return nil, badLine
	}
	p := params{words: words[1:]}
	c := p.command(words[0])
	if fault := p.fault(); fault != "" {
		return nil, fault
	}
	return c, ""
}

// command takes the parameters of the command that a word names.
func (p *params) command(word string) any {
	switch word {
	case "hire":
		return hiring{p.name(), p.number()}
	case "day":
		return calling{}
	case "earn":
		return earning{p.name(), p.number()}
	case "way":
		return paving{api.Way{A: p.number(), B: p.number(), Cost: p.number()}}
	case "ride":
		return riding{api.Ride{From: p.number(), To: p.number()}}
	case "need":
		return needing{p.number(), p.number()}
	case "stamp":
		return stamping{p.number()}
	case "log":
		return logging{}
	case "branch":
		return branching{}
	case "narrow":
		return narrowing{}
	case "tour":
		return touring{}
	case "shifts":
		return shifting{}
	case "pay":
		return paying{p.number()}
	case "jam":
		return jamming{p.evenNumbers(2 * api.MaxLanes)}
	case "part":
		return parting{p.evenNumbers(2 * api.MaxThings)}
	case "round":
		return rounding{p.fewNumbers(api.MaxDrivers)}
	case "mend":
		return mending{p.fewWords(api.MaxArcs)}
	case "audit":
		return auditing{}
	case "if":
		return wondering{p.rest()}
	default:
		p.misfit = true
		return nil
	}
}

// changes reports whether a command changes the stand.
func changes(c any) bool {
	switch c.(type) {
	case hiring, calling, earning, paving, riding, needing, stamping:
		return true
	default:
		return false
	}
}
