package cnf

import (
	"slices"
	"strconv"
	"strings"

	"assize/api"
	"assize/lits"
)

// Tagged: the clauses with the tag to in all names of Skolem terms and definitions that have the tag from.
func Tagged(l []api.Clause, from, to int) ([]api.Clause, api.Errno) {
	wrong := func(c api.Clause) bool { return lits.Right(c) != api.OK }
	if !isTag(from) || !isTag(to) || slices.ContainsFunc(l, wrong) {
		return nil, api.ErrArg
	}
	e := endings{from: ending(from), to: ending(to)}
	list := make([]api.Clause, len(l))
	for i, c := range l {
		list[i] = make(api.Clause, len(c))
		for k, lit := range c {
			list[i][k] = api.Lit{Neg: lit.Neg, L: e.term(lit.L), R: e.term(lit.R)}
		}
	}
	return list, api.OK
}

// ending: what names with the tag end with.
func ending(tag int) string { return "_" + strconv.Itoa(tag) }

// endings: of names as they are, and as they are to be.
type endings struct{ from, to string }

func (e endings) term(t api.Term) api.Term {
	made := api.Term{Var: t.Var, Fn: e.name(t.Fn)}
	for _, arg := range t.Args {
		made.Args = append(made.Args, e.term(arg))
	}
	return made
}

func (e endings) name(name string) string {
	rest, ends := strings.CutSuffix(name, e.from)
	if ends && (isNumbered(rest, skolem) || isNumbered(rest, definition)) {
		return rest + e.to
	}
	return name
}

// isNumbered: is it that beginning, and digits behind it?
func isNumbered(text, beginning string) bool {
	digits, begins := strings.CutPrefix(text, beginning)
	other := func(c rune) bool { return c < '0' || c > '9' }
	return begins && digits != "" && !strings.ContainsFunc(digits, other)
}
