package nnf

import (
	"fmt"
	"math/rand"
	"slices"
	"strings"
	"testing"

	"assize/api"
	"assize/syntax"
)

func fn(name string, args ...api.Term) api.Term { return api.Term{Fn: name, Args: args} }

func pred(name string, args ...api.Term) api.Formula { return eq(fn("@"+name, args...), fn("$true")) }
func eq(l, r api.Term) api.Formula                   { return api.Formula{Kind: api.FAtom, L: l, R: r} }
func yes() api.Formula                               { return api.Formula{Kind: api.FTrue} }
func no() api.Formula                                { return api.Formula{Kind: api.FFalse} }
func not(f api.Formula) api.Formula                  { return of(api.FNot, "", f) }
func and(f, g api.Formula) api.Formula               { return of(api.FAnd, "", f, g) }
func or(f, g api.Formula) api.Formula                { return of(api.FOr, "", f, g) }
func imp(f, g api.Formula) api.Formula               { return of(api.FImp, "", f, g) }
func iff(f, g api.Formula) api.Formula               { return of(api.FIff, "", f, g) }
func forAll(name string, f api.Formula) api.Formula  { return of(api.FAll, name, f) }
func exists(name string, f api.Formula) api.Formula  { return of(api.FEx, name, f) }

func of(kind int, name string, kids ...api.Formula) api.Formula {
	return api.Formula{Kind: kind, Name: name, Kids: kids}
}

// raw: a formula as a text that no other one has, whatever its fields are; lists that are nil and lists that are empty are one.
func raw(f api.Formula) string {
	var b strings.Builder
	var terms func(list ...api.Term)
	terms = func(list ...api.Term) {
		for _, t := range list {
			fmt.Fprintf(&b, "(%d %q %d:", t.Var, t.Fn, len(t.Args))
			terms(t.Args...)
			b.WriteString(")")
		}
	}
	var formulas func(list ...api.Formula)
	formulas = func(list ...api.Formula) {
		for _, f := range list {
			fmt.Fprintf(&b, "{%d %q ", f.Kind, f.Name)
			terms(f.L, f.R)
			fmt.Fprintf(&b, " %d:", len(f.Kids))
			formulas(f.Kids...)
			b.WriteString("}")
		}
	}
	formulas(f)
	return b.String()
}

// call: Nnf or Mini.
type call = func(api.Formula) (api.Formula, api.Errno)

// gives: the call answers this formula.
func gives(t *testing.T, do call, f, want api.Formula) {
	t.Helper()
	if got, err := do(f); err != api.OK || raw(got) != raw(want) {
		t.Fatalf("%.500s: error %d, %.500q, not %.500q", shown(f), int(err), shown(got), shown(want))
	}
}

// fails: the call answers this error, and no formula.
func fails(t *testing.T, do call, f api.Formula, want api.Errno) {
	t.Helper()
	got, err := do(f)
	if err != want || got.Kind != 0 || got.Name != "" || got.Kids != nil || got.L.Fn != "" || got.L.Args != nil || got.R.Fn != "" || got.R.Args != nil {
		t.Fatalf("%.300s: error %d, %.300s, not error %d", shown(f), int(err), raw(got), int(want))
	}
}

// shown: a formula to be read by people.
func shown(f api.Formula) string {
	if text := syntax.Show(f); text != "" {
		return text
	}
	return raw(f)
}

// read: of a text, whose variables may be free.
func read(t *testing.T, text string) api.Formula {
	t.Helper()
	const all = "! [X,Y,Z] : "
	f, at, err := syntax.Fof(all + text)
	if err != api.OK {
		t.Fatalf("%q: error %d at %d", text, int(err), at-len(all))
	}
	return f.Kids[0].Kids[0].Kids[0]
}

// deep: that often f of t.
func deep(times int, t api.Term) api.Term {
	for range times {
		t = fn("f", t)
	}
	return t
}

// sized: a formula of atoms, FAnd and a quantifier or two, of that size, which is at least 3, and as flat as can be.
func sized(size int) api.Formula {
	switch size {
	case 3:
		return pred("p")
	case 4:
		return pred("p", fn("Z"))
	case 5:
		return pred("p", fn("Z"), fn("a"))
	case 6:
		return pred("p", fn("a"), fn("f", fn("Z")))
	}
	return and(sized((size-1)/2), sized(size-1-(size-1)/2))
}

// maker: formulas by chance.
type maker struct {
	*rand.Rand
	kinds []int
	vars  []string
}

func newMaker(seed int64, kinds ...int) maker {
	return maker{Rand: rand.New(rand.NewSource(seed)), kinds: kinds, vars: []string{"X", "Y", "Z"}}
}

// allKinds: of formulas that have kids.
func allKinds() []int {
	return []int{api.FNot, api.FAnd, api.FOr, api.FImp, api.FIff, api.FAll, api.FEx}
}

// turnedKinds: those that Mini takes, beside FNot of atoms.
func turnedKinds() []int { return []int{api.FAnd, api.FOr, api.FAll, api.FEx} }

func pick[T any](m maker, list []T) T { return list[m.Intn(len(list))] }

func (m maker) term(depth int) api.Term {
	if depth <= 1 || m.Intn(2) == 0 {
		return fn(pick(m, append([]string{"a", "b"}, m.vars...)))
	}
	return fn(pick(m, []string{"f", "g"}), m.term(depth-1))
}

func (m maker) atom() api.Formula {
	switch m.Intn(4) {
	case 0:
		return eq(m.term(2), m.term(2))
	case 1:
		return pred(pick(m, []string{"p", "q"}))
	case 2:
		return pred("r", m.term(2), m.term(2))
	}
	return pred(pick(m, []string{"p", "q"}), m.term(2))
}

// leaf: an atom, one negated, or (one of that many) a constant.
func (m maker) leaf(constants int) api.Formula {
	switch {
	case m.Intn(constants) == 0:
		return pick(m, []api.Formula{yes(), no()})
	case m.Intn(3) == 0:
		return not(m.atom())
	}
	return m.atom()
}

// formula: of at most that depth above its leaves, of which one in so many is a constant.
func (m maker) formula(depth, constants int) api.Formula {
	if depth <= 0 || m.Intn(8) == 0 {
		return m.leaf(constants)
	}
	kind := pick(m, m.kinds)
	switch kind {
	case api.FNot:
		return not(m.formula(depth-1, constants))
	case api.FAll, api.FEx:
		return of(kind, pick(m, m.vars), m.formula(depth-1, constants))
	}
	return of(kind, "", m.formula(depth-1, constants), m.formula(depth-1, constants))
}

// grown: all formulas of these kinds over the given ones, two signs deep; of the second depth those with one of few beside a great one.
func grown(kinds []int, leaves []api.Formula) []api.Formula {
	all := slices.Clone(leaves)
	last := leaves
	for range 2 {
		var next []api.Formula
		few := all[:min(len(all), len(leaves))]
		for _, f := range last {
			for _, kind := range kinds {
				switch kind {
				case api.FNot:
					next = append(next, not(f))
				case api.FAll, api.FEx:
					next = append(next, of(kind, "X", f), of(kind, "Y", f))
				default:
					for _, g := range few {
						next = append(next, of(kind, "", f, g), of(kind, "", g, f))
					}
				}
			}
		}
		all, last = append(all, next...), next
	}
	return all
}
