package syntax

import "assize/api"

// scope: which variables are bound at a place, and which free ones were met on the way there.
type scope struct {
	bound map[string]int // how many of the quantifiers around have it
	met   map[string]int // how often it was free
}

func newScope() scope { return scope{bound: map[string]int{}, met: map[string]int{}} }

// meet: the variable stands here. Is it free, and met for the first time?
func (s scope) meet(name string) bool {
	if s.bound[name] > 0 {
		return false
	}
	s.met[name]++
	return s.met[name] == 1
}

// within: does the work where quantifiers have these names.
func (s scope) within(names []string, work func()) {
	for _, name := range names {
		s.bound[name]++
	}
	work()
	for _, name := range names {
		s.bound[name]--
	}
}

// meetAll: all variables of these formulas stand here.
func (s scope) meetAll(list ...api.Formula) {
	for _, f := range list {
		s.meetTerms(f.L, f.R)
		if isQuantifier(f) {
			s.within([]string{f.Name}, func() { s.meetAll(f.Kids...) })
		} else {
			s.meetAll(f.Kids...)
		}
	}
}

func (s scope) meetTerms(list ...api.Term) {
	for _, t := range list {
		if isVariable(t) {
			s.meet(t.Fn)
		}
		s.meetTerms(t.Args...)
	}
}
