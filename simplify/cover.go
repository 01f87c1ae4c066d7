package simplify

import (
	"cmp"
	"slices"

	"assize/api"
	"assize/term"
	"assize/unify"
)

// fit: a literal of d, by its number, that a literal of c becomes.
type fit struct {
	at    int
	binds []api.Bind // of each variable of that literal of c, rising, also of one that stands for itself
}

// mayCover: may each literal of c, looked at by itself, become one of d?
func mayCover(c, d api.Clause) bool {
	return len(c) <= len(d) && !slices.ContainsFunc(c, func(l api.Lit) bool {
		return !slices.ContainsFunc(d, func(m api.Lit) bool { return mayBecome(l, m, false) || mayBecome(l, m, true) })
	})
}

// mayBecome: does nothing that is seen at once keep l from becoming m, as it stands or flipped?
func mayBecome(l, m api.Lit, flip bool) bool {
	return l.Neg == m.Neg && resembles(l.L, sideOf(m, flip)) && resembles(l.R, sideOf(m, !flip))
}

// covers: does one substitution make each literal of c one of d, no two the same one?
// The literal with the fewest fits is placed first, and each fit takes away those of the others that don't go with it.
func covers(c, d api.Clause) bool {
	lists := make([][]fit, len(c))
	for i, l := range c {
		lists[i] = fitsOf(l, d)
	}
	var place func(lists [][]fit) bool
	place = func(lists [][]fit) bool {
		if len(lists) == 0 {
			return true
		}
		fewest, others := parted(lists)
		return slices.ContainsFunc(fewest, func(f fit) bool { return place(besides(f, others)) })
	}
	return place(pruned(lists))
}

// fitsOf: the literals of d that l becomes, as they stand and flipped.
func fitsOf(l api.Lit, d api.Clause) []fit {
	var list []fit
	for at, m := range d {
		for _, flip := range [...]bool{false, true} {
			if !mayBecome(l, m, flip) {
				continue
			}
			if binds, ok := bindsOf(l, sideOf(m, flip), sideOf(m, !flip)); ok {
				list = append(list, fit{at: at, binds: binds})
			}
		}
	}
	return list
}

// bindsOf: what stands for the literal's variables where its sides become these.
func bindsOf(l api.Lit, left, right api.Term) ([]api.Bind, bool) {
	one, ok := matchOf(l.L, left)
	if !ok {
		return nil, false
	}
	two, ok := matchOf(l.R, right)
	if !ok || !agree(one, two) {
		return nil, false
	}
	all := slices.Concat(one, two)
	slices.SortFunc(all, func(a, b api.Bind) int { return cmp.Compare(a.Var, b.Var) })
	return slices.CompactFunc(all, func(a, b api.Bind) bool { return a.Var == b.Var }), true
}

// matchOf: what stands for each variable of the pattern. A match tells nothing of a variable that stays itself, and yet nothing else may stand for that one.
func matchOf(pattern, t api.Term) ([]api.Bind, bool) {
	told, ok, _ := unify.Match(pattern, t)
	if !ok {
		return nil, false
	}
	vars := term.Vars(pattern)
	binds := make([]api.Bind, len(vars))
	for i, number := range vars {
		if len(told) > 0 && told[0].Var == number {
			binds[i], told = told[0], told[1:]
		} else {
			binds[i] = api.Bind{Var: number, T: api.Term{Var: number}}
		}
	}
	return binds, true
}

// agree: does the same stand for each variable that both have?
func agree(a, b []api.Bind) bool {
	for len(a) > 0 && len(b) > 0 {
		switch {
		case a[0].Var < b[0].Var:
			a = a[1:]
		case a[0].Var > b[0].Var:
			b = b[1:]
		case !term.Same(a[0].T, b[0].T):
			return false
		default:
			a, b = a[1:], b[1:]
		}
	}
	return true
}

// together: may two literals of c become these at once?
func together(f, g fit) bool { return f.at != g.at && agree(f.binds, g.binds) }

// pruned: the lists without the fits that leave another list none to go with, until there are no such.
// Two literals that can't be placed together are found here, and not anew for each way to place the others.
func pruned(lists [][]fit) [][]fit {
	for changed := true; changed; {
		changed = false
		for i, list := range lists {
			lists[i] = slices.DeleteFunc(list, func(f fit) bool { return strands(f, i, lists) })
			changed = changed || len(lists[i]) < len(list)
		}
	}
	return lists
}

// strands: does the fit of the literal i leave another one nothing to become?
func strands(f fit, i int, lists [][]fit) bool {
	for k, list := range lists {
		if k != i && !slices.ContainsFunc(list, func(g fit) bool { return together(f, g) }) {
			return true
		}
	}
	return false
}

// parted: the shortest list, and the others.
func parted(lists [][]fit) ([]fit, [][]fit) {
	at := 0
	for i, list := range lists {
		if len(list) < len(lists[at]) {
			at = i
		}
	}
	return lists[at], slices.Concat(lists[:at], lists[at+1:])
}

// besides: what is left of the lists beside f.
func besides(f fit, lists [][]fit) [][]fit {
	left := make([][]fit, len(lists))
	for i, list := range lists {
		for _, g := range list {
			if together(f, g) {
				left[i] = append(left[i], g)
			}
		}
	}
	return left
}
