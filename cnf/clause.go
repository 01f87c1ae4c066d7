package cnf

import (
	"iter"
	"slices"

	"assize/api"
	"assize/lits"
)

// clause: one that is put together. It keeps its size, so that it need not be counted anew at each step.
type clause struct {
	list api.Clause
	size int
}

// unit: the clause of one literal, alone in a list.
func unit(l api.Lit) ([]clause, api.Errno) {
	list := api.Clause{l}
	if err := lits.Right(list); err != api.OK {
		return nil, err
	}
	return []clause{{list: list, size: lits.Size(list)}}, api.OK
}

func negated(l api.Lit) api.Lit { return api.Lit{Neg: !l.Neg, L: l.L, R: l.R} }

// with: the clause with another one's literals behind its own. Each literal was right by itself, and so lits.Right could refuse no more than how many and how great they are together.
func (c clause) with(d clause) (clause, api.Errno) {
	if len(c.list)+len(d.list) > api.MaxLits || c.size+d.size > api.MaxNodes {
		return clause{}, api.ErrBig
	}
	return clause{list: slices.Concat(c.list, d.list), size: c.size + d.size}, api.OK
}

// pairs: each of the first with each of the second, which go round fastest.
func pairs(first, second []clause) iter.Seq2[clause, clause] {
	return func(yield func(clause, clause) bool) {
		for _, a := range first {
			for _, b := range second {
				if !yield(a, b) {
					return
				}
			}
		}
	}
}

// joined: of each pair one clause, in order.
func joined(products ...iter.Seq2[clause, clause]) ([]clause, api.Errno) {
	var made []clause
	for _, product := range products {
		for a, b := range product {
			c, err := a.with(b)
			if err != api.OK {
				return nil, err
			}
			made = append(made, c)
		}
	}
	return limited(made)
}

// limited: the clauses of a part, if they are not too many.
func limited(made []clause) ([]clause, api.Errno) {
	if len(made) > api.MaxClauses {
		return nil, api.ErrBig
	}
	return made, api.OK
}
