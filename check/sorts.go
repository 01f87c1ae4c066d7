package check

import (
	"slices"
	"strings"

	"assize/api"
	"assize/lits"
)

// usable: the clause itself, which must be right, and speak of things as things, and of truths as truths:
// what is said of all things would else be said of truths too, of which there are but two.
func usable(c api.Clause) api.Clause {
	need(lits.Right(c) == api.OK && sorted(c))
	return c
}

// sorted: is no truth an argument, nor beside what is none?
func sorted(c api.Clause) bool {
	return !slices.ContainsFunc(c, func(l api.Lit) bool {
		return truth(l.L) != truth(l.R) || truthWithin(l.L) || truthWithin(l.R)
	})
}

// untrue: does no variable stand for a truth?
func untrue(s []api.Bind) bool {
	return !slices.ContainsFunc(s, func(b api.Bind) bool { return truth(b.T) })
}

// truth: is the term true or false, and no thing?
func truth(t api.Term) bool { return t.Fn == lits.True().Fn || strings.HasPrefix(t.Fn, "@") }

// truthWithin: is an argument of the term a truth, or an argument of one of these, and so on?
func truthWithin(t api.Term) bool {
	return slices.ContainsFunc(t.Args, func(arg api.Term) bool { return truth(arg) || truthWithin(arg) })
}
