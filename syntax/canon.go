package syntax

import (
	"strconv"

	"assize/api"
)

// Canon: the formula with its bound variables named X0, X1, .. in the order of their quantifiers; of one that is not right, or not closed, FFalse.
func Canon(f api.Formula) api.Formula {
	if Right(f) != api.OK || len(Free(f)) > 0 {
		return api.Formula{Kind: api.FFalse}
	}
	r := renamer{numbers: map[string]int{}}
	return r.formula(f)
}

// renamer: numbers the quantifiers as they are met.
type renamer struct {
	next    int
	numbers map[string]int // of the nearest quantifier around that has the name
}

func (r *renamer) formula(f api.Formula) api.Formula {
	g := api.Formula{Kind: f.Kind, L: r.term(f.L), R: r.term(f.R)}
	if isQuantifier(f) {
		outer := r.numbers[f.Name]
		r.numbers[f.Name] = r.next
		g.Name = numbered(r.next)
		r.next++
		// behind an inner quantifier of the same name the outer one has it again
		defer func() { r.numbers[f.Name] = outer }()
	}
	for _, kid := range f.Kids {
		g.Kids = append(g.Kids, r.formula(kid))
	}
	return g
}

func (r *renamer) term(t api.Term) api.Term {
	if isVariable(t) {
		return api.Term{Fn: numbered(r.numbers[t.Fn])}
	}
	renamed := api.Term{Fn: t.Fn}
	for _, arg := range t.Args {
		renamed.Args = append(renamed.Args, r.term(arg))
	}
	return renamed
}

func numbered(n int) string { return "X" + strconv.Itoa(n) }
