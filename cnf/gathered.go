package cnf

import (
	"cmp"
	"slices"
	"strconv"

	"assize/api"
	"assize/lits"
	"assize/syntax"
	"assize/term"
)

// mostPairs: so many clauses may come of two lists of more than one, without a definition.
const mostPairs = 16

// counters: of what was met so far.
type counters struct{ definitions int }

// define: the number of the definition that is met now.
func (c *counters) define() int {
	c.definitions++
	return c.definitions - 1
}

// gathered: what was met on the way through a formula that is made ready.
type gathered struct {
	counters
	tag   int
	terms map[string]api.Term // what stands in clauses for each variable whose quantifier was met
}

func newGathered(tag int) *gathered {
	return &gathered{tag: tag, terms: map[string]api.Term{}}
}

// clauses: of a part of the formula, all quantifiers around which were met.
func (g *gathered) clauses(f api.Formula) ([]clause, api.Errno) {
	switch f.Kind {
	case api.FTrue:
		return nil, api.OK
	case api.FFalse:
		return []clause{{}}, api.OK
	case api.FAtom:
		return unit(g.literal(f, false))
	case api.FNot:
		return unit(g.literal(f.Kids[0], true))
	case api.FAll, api.FEx:
		return g.quantified(f)
	}
	first, err := g.clauses(f.Kids[0])
	if err != api.OK {
		return nil, err
	}
	second, err := g.clauses(f.Kids[1])
	if err != api.OK {
		return nil, err
	}
	if f.Kind == api.FAnd {
		return limited(slices.Concat(first, second))
	}
	return g.either(first, second, f.Kids[1])
}

// quantified: the kid's clauses, once it is known what stands for the variable.
func (g *gathered) quantified(f api.Formula) ([]clause, api.Errno) {
	stands := api.Term{Var: number(f.Name)}
	if f.Kind == api.FEx {
		made, err := g.symbol(skolem, number(f.Name), f)
		if err == api.OK {
			// a quantifier's variable stands in an atom of its kid, and so no clause that is right could have what is not
			err = term.Right(made)
		}
		if err != api.OK {
			return nil, err
		}
		stands = made
	}
	g.terms[f.Name] = stands
	return g.clauses(f.Kids[0])
}

// either: the clauses of FOr, whose second kid is told beside the kids' clauses.
func (g *gathered) either(first, second []clause, kid api.Formula) ([]clause, api.Errno) {
	if len(first) <= 1 || len(second) <= 1 || len(first)*len(second) <= mostPairs {
		return joined(pairs(first, second))
	}
	name, err := g.symbol(definition, g.define(), kid)
	if err != api.OK {
		return nil, err
	}
	plain := lits.Atom(name)
	positive, err := unit(plain)
	if err != api.OK {
		return nil, err
	}
	negative, err := unit(negated(plain))
	if err != api.OK {
		return nil, err
	}
	return joined(pairs(first, positive), pairs(negative, second))
}

// symbol: what has that name, the number k and the tag, of the variables that are free in the formula.
func (g *gathered) symbol(name string, k int, f api.Formula) (api.Term, api.Errno) {
	args := g.free(f)
	if len(args) > api.MaxArgs {
		return api.Term{}, api.ErrBig
	}
	return api.Term{Fn: name + strconv.Itoa(k) + ending(g.tag), Args: args}, api.OK
}

// free: what stands for the variables that are free in the formula, rising by their numbers (10 comes behind 9, not so by bytes).
func (g *gathered) free(f api.Formula) []api.Term {
	names := syntax.Free(f)
	slices.SortFunc(names, func(a, b string) int { return cmp.Compare(number(a), number(b)) })
	var stand []api.Term
	for _, name := range names {
		stand = append(stand, g.terms[name])
	}
	return stand
}

// number: of a variable, as syntax.Canon named it: a letter and the number.
func number(name string) int {
	k, _ := strconv.Atoi(name[1:])
	return k
}

func (g *gathered) literal(atom api.Formula, neg bool) api.Lit {
	return api.Lit{Neg: neg, L: g.placed(atom.L), R: g.placed(atom.R)}
}

// placed: the term with what stands for its variables in their places, whose arguments it shares.
func (g *gathered) placed(t api.Term) api.Term {
	if stands, is := g.terms[t.Fn]; is {
		return stands
	}
	made := api.Term{Fn: t.Fn}
	for _, arg := range t.Args {
		made.Args = append(made.Args, g.placed(arg))
	}
	return made
}
