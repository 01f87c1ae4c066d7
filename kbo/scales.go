package kbo

import (
	"cmp"

	"assize/api"
)

// The pans of the scales: what lies at the right counts against what lies at the left.
const (
	left  = 1
	right = -1
)

// scales: what the terms at the left have more than those at the right. All is summed up as they are laid on, so that
// comparing two terms looks at each of their parts once, however deep their first difference is.
type scales struct {
	g      Sign
	places map[string]int // of the names that have a weight
	weight int
	counts map[int]int // by variables: how much oftener each one stands at the left
	more   int         // how many variables stand oftener at the left
	fewer  int         // how many stand oftener at the right
}

// level: scales with nothing on them.
func level(g Sign) *scales {
	weighed := min(len(g.Names), len(g.Weights))
	return &scales{g: g, places: places(g.Names[:weighed]), counts: map[int]int{}}
}

// compare: what both come to. It lays them on, and the scales must have been level: arguments that are the same leave them so.
func (s *scales) compare(a, b api.Term) int {
	if isVar(a) || isVar(b) || a.Fn != b.Fn || len(a.Args) != len(b.Args) {
		s.lay(left, a)
		s.lay(right, b)
		return s.told(s.heads(a, b))
	}
	return s.told(s.arguments(a.Args, b.Args))
}

// told: what the terms that lie on come to, if they come to tie where their weights are the same.
func (s *scales) told(tie int) int {
	order := tie
	if s.weight != 0 {
		order = cmp.Compare(s.weight, 0)
	}
	if order == Greater && s.fewer > 0 || order == Less && s.more > 0 {
		return None
	}
	return order
}

// heads: what comes of variables, or of symbols that are not one.
func (s *scales) heads(a, b api.Term) int {
	switch {
	case isVar(a) && isVar(b) && a.Var == b.Var:
		return Equal
	case isVar(a) || isVar(b):
		return None
	case Above(s.g, a.Fn, b.Fn) || a.Fn == b.Fn && len(a.Args) > len(b.Args):
		return Greater
	}
	return Less
}

// arguments: what the first ones that are not the same come to. Those behind them count only on the scales.
func (s *scales) arguments(a, b []api.Term) int {
	order, next := Equal, 0
first:
	for i := range len(a) {
		next = i + 1
		switch order = s.compare(a[i], b[i]); order {
		case Less, Greater, None:
			break first
		}
	}
	s.lay(left, a[next:]...)
	s.lay(right, b[next:]...)
	return order
}

// lay: the terms are put into the pan.
func (s *scales) lay(pan int, terms ...api.Term) {
	for _, t := range terms {
		if isVar(t) {
			s.weight += pan
			s.count(t.Var, pan)
			continue
		}
		s.weight += pan * s.heaviness(t.Fn)
		s.lay(pan, t.Args...)
	}
}

// count: the variable stands once more in the pan.
func (s *scales) count(number, pan int) {
	s.note(s.counts[number], -1)
	s.counts[number] += pan
	s.note(s.counts[number], 1)
}

// note: so many more variables have a count like this one.
func (s *scales) note(count, by int) {
	switch {
	case count > 0:
		s.more += by
	case count < 0:
		s.fewer += by
	}
}

// heaviness: what a function of that name weighs by itself.
func (s *scales) heaviness(name string) int {
	place, there := s.places[name]
	if !there || wrongWeight(s.g.Weights[place]) {
		return 1
	}
	return s.g.Weights[place]
}

func isVar(t api.Term) bool { return t.Fn == "" }
