package lpo

import (
	"maps"
	"slices"

	"assize/api"
	"assize/kbo"
)

const (
	ofVar    = 0  // the rank of a variable; symbols have greater ones
	wordBits = 64 // of a set's word
)

// symbol: a name with a number of arguments.
type symbol struct {
	name  string
	count int
}

func symbolOf(t api.Term) symbol { return symbol{name: t.Fn, count: len(t.Args)} }

func above(g kbo.Sign, s, r symbol) bool {
	return kbo.Above(g, s.name, r.name) || s.name == r.name && s.count > r.count
}

// heads: what the parts of terms begin with.
type heads struct {
	ranks map[symbol]int // of symbols, from 1 on: the higher one is above
	vars  map[int]int    // of variables, from 0 on: as they were met
}

// headsOf: of the terms' parts. The symbols are sorted once, since the whole signature is searched to tell which of
// two is above.
func headsOf(g kbo.Sign, terms ...api.Term) heads {
	h := heads{ranks: map[symbol]int{}, vars: map[int]int{}}
	h.meet(terms)
	rising := slices.SortedFunc(maps.Keys(h.ranks), func(s, r symbol) int {
		switch {
		case above(g, s, r):
			return 1
		case above(g, r, s):
			return -1
		}
		return 0
	})
	for i, s := range rising {
		h.ranks[s] = i + 1
	}
	return h
}

// meet: what the terms' parts begin with is noted. Symbols have no rank of their own until all are met.
func (h heads) meet(terms []api.Term) {
	for _, t := range terms {
		if t.Fn != "" {
			h.ranks[symbolOf(t)] = ofVar
		} else if _, met := h.vars[t.Var]; !met {
			h.vars[t.Var] = len(h.vars)
		}
		h.meet(t.Args)
	}
}

// number: of a part, among at most 2*MaxNodes of them. It is short, since a comparison may keep millions of pairs.
type number int16

// node: a part whose arguments are told by their numbers. Two parts that are the same are one node, so it serves as a key.
type node struct {
	rank int // of its symbol, which says how many arguments there are
	v    int
	args [api.MaxArgs]number
}

// part: what a comparison asks of it.
type part struct {
	number number
	rank   int
	args   []number
	top    int // the highest rank that stands in it
	vars   set // that stand in it
}

// listing: parts by their numbers, each once, arguments ahead of what they are of.
type listing struct {
	heads
	numbers map[node]number
	parts   []part
}

// enter: the term's number; a new one, if it is not listed yet.
func (l *listing) enter(t api.Term) number {
	n := node{rank: l.ranks[symbolOf(t)], v: t.Var}
	for i, arg := range t.Args {
		n.args[i] = l.enter(arg)
	}
	if old, listed := l.numbers[n]; listed {
		return old
	}
	fresh := number(len(l.parts))
	l.numbers[n] = fresh
	l.parts = append(l.parts, l.built(fresh, n, len(t.Args)))
	return fresh
}

// built: the part of a node whose first count arguments are its own, and listed.
func (l *listing) built(own number, n node, count int) part {
	p := part{number: own, rank: n.rank, args: slices.Clone(n.args[:count]), top: n.rank, vars: l.emptySet()}
	if n.rank == ofVar {
		p.vars.add(l.vars[n.v])
	}
	for _, arg := range p.args {
		p.top = max(p.top, l.parts[arg].top)
		p.vars.join(l.parts[arg].vars)
	}
	return p
}

// set: of variables, a bit for each. All sets of a listing have as many words.
type set []uint64

func (h heads) emptySet() set { return make(set, (len(h.vars)+wordBits-1)/wordBits) }

func (s set) add(variable int) { s[variable/wordBits] |= 1 << (variable % wordBits) }

func (s set) join(other set) {
	for i, word := range other {
		s[i] |= word
	}
}

// within: has the other one all that s has?
func (s set) within(other set) bool {
	for i, word := range s {
		if word&^other[i] != 0 {
			return false
		}
	}
	return true
}
