package nnf

import (
	"slices"

	"assize/api"
	"assize/syntax"
)

// Mini: the formula, whose negations stand at atoms alone, with its quantifiers as far inside as they can stand.
func Mini(f api.Formula) (api.Formula, api.Errno) {
	if err := syntax.Right(f); err != api.OK {
		return api.Formula{}, err
	}
	if !isTurned(f) {
		return api.Formula{}, api.ErrArg
	}
	came := inward(f)
	if err := limited(syntax.Size(came), syntax.Depth(came)); err != api.OK {
		return api.Formula{}, err
	}
	return fresh(came), api.OK
}

// isTurned: do negations stand at atoms alone, and are there no signs that hide one?
func isTurned(f api.Formula) bool {
	switch f.Kind {
	case api.FImp, api.FIff:
		return false
	case api.FNot:
		if f.Kids[0].Kind != api.FAtom {
			return false
		}
		fallthrough
	default:
		return !slices.ContainsFunc(f.Kids, func(kid api.Formula) bool { return !isTurned(kid) })
	}
}

// inward: the formula with its quantifiers pushed, the inner ones ahead of the outer.
func inward(f api.Formula) api.Formula {
	kids := make([]api.Formula, 0, len(f.Kids))
	for _, kid := range f.Kids {
		kids = append(kids, inward(kid))
	}
	if isQuantifier(f.Kind) {
		return pushed(f.Kind, f.Name, kids[0])
	}
	f.Kids = kids
	return f
}

// pushed: the quantifier over the formula, as far inside as it can stand.
func pushed(kind int, name string, f api.Formula) api.Formula {
	switch {
	case !isFree(name, f):
		return f
	case !spreads(kind, name, f):
		return api.Formula{Kind: kind, Name: name, Kids: []api.Formula{f}}
	}
	// a kid that has the variable not at all comes out as it is
	f.Kids = []api.Formula{pushed(kind, name, f.Kids[0]), pushed(kind, name, f.Kids[1])}
	return f
}

// spreads: may the quantifier be taken to each kid by itself? If the two signs do not go together, only where one kid alone has the variable.
func spreads(kind int, name string, f api.Formula) bool {
	if f.Kind != api.FAnd && f.Kind != api.FOr {
		return false
	}
	together := (kind == api.FAll) == (f.Kind == api.FAnd)
	return together || !isFree(name, f.Kids[0]) || !isFree(name, f.Kids[1])
}

// isFree: does the variable stand somewhere where no quantifier within the formula has it?
func isFree(name string, f api.Formula) bool {
	if isQuantifier(f.Kind) && f.Name == name {
		return false
	}
	return stands(name, f.L) || stands(name, f.R) || slices.ContainsFunc(f.Kids, func(kid api.Formula) bool { return isFree(name, kid) })
}

func stands(name string, t api.Term) bool {
	return t.Fn == name || slices.ContainsFunc(t.Args, func(arg api.Term) bool { return stands(name, arg) })
}

func isQuantifier(kind int) bool { return kind == api.FAll || kind == api.FEx }
