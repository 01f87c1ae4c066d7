package simplify

import (
	"strings"

	"assize/api"
	"assize/lits"
)

// sideOf: the literal's left side, or, flipped, its right one.
func sideOf(l api.Lit, flip bool) api.Term {
	if flip {
		return l.R
	}
	return l.L
}

func isVar(t api.Term) bool { return t.Fn == "" }

// truth: is the term true or false, and no thing?
func truth(t api.Term) bool { return t.Fn == lits.True().Fn || strings.HasPrefix(t.Fn, "@") }

// resembles: does t have the pattern's functions, and never a truth where that one has a variable?
// What a variable stands for elsewhere is not looked at, so that this needs no memory, and spares most terms the search for a match.
func resembles(pattern, t api.Term) bool {
	if isVar(pattern) {
		return !truth(t)
	}
	if pattern.Fn != t.Fn || len(pattern.Args) != len(t.Args) {
		return false
	}
	for i, arg := range pattern.Args {
		if !resembles(arg, t.Args[i]) {
			return false
		}
	}
	return true
}
