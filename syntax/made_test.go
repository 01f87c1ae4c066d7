package syntax

import (
	"fmt"
	"math/rand"
	"slices"
	"strings"
	"testing"

	"assize/api"
)

func fn(name string, args ...api.Term) api.Term { return api.Term{Fn: name, Args: args} }

func pred(name string, args ...api.Term) api.Formula { return eq(fn("@"+name, args...), fn("$true")) }
func eq(l, r api.Term) api.Formula                   { return api.Formula{Kind: api.FAtom, L: l, R: r} }
func yes() api.Formula                               { return api.Formula{Kind: api.FTrue} }
func no() api.Formula                                { return api.Formula{Kind: api.FFalse} }
func not(f api.Formula) api.Formula                  { return of(api.FNot, "", f) }
func and(f, g api.Formula) api.Formula               { return of(api.FAnd, "", f, g) }
func or(f, g api.Formula) api.Formula                { return of(api.FOr, "", f, g) }
func imp(f, g api.Formula) api.Formula               { return of(api.FImp, "", f, g) }
func iff(f, g api.Formula) api.Formula               { return of(api.FIff, "", f, g) }
func forAll(name string, f api.Formula) api.Formula  { return of(api.FAll, name, f) }
func exists(name string, f api.Formula) api.Formula  { return of(api.FEx, name, f) }

func of(kind int, name string, kids ...api.Formula) api.Formula {
	return api.Formula{Kind: kind, Name: name, Kids: kids}
}

// raw: a formula as a text that no other one has, whatever its fields are; lists that are nil and lists that are empty are one.
func raw(f api.Formula) string {
	var b strings.Builder
	var terms func(list ...api.Term)
	terms = func(list ...api.Term) {
		for _, t := range list {
			fmt.Fprintf(&b, "(%d %q %d:", t.Var, t.Fn, len(t.Args))
			terms(t.Args...)
			b.WriteString(")")
		}
	}
	var formulas func(list ...api.Formula)
	formulas = func(list ...api.Formula) {
		for _, f := range list {
			fmt.Fprintf(&b, "{%d %q ", f.Kind, f.Name)
			terms(f.L, f.R)
			fmt.Fprintf(&b, " %d:", len(f.Kids))
			formulas(f.Kids...)
			b.WriteString("}")
		}
	}
	formulas(f)
	return b.String()
}

// told: an answer of Fof or Cnf as a text that no other one has.
func told(f api.Formula, at int, err api.Errno) string {
	return fmt.Sprintf("%s at %d error %d", raw(f), at, int(err))
}

// reads: the text is read as this formula.
func reads(t *testing.T, read func(string) (api.Formula, int, api.Errno), s string, want api.Formula) {
	t.Helper()
	f, at, err := read(s)
	if got, want := told(f, at, err), told(want, 0, api.OK); got != want {
		t.Errorf("%.200q: %.500s, not %.500s", s, got, want)
	}
}

// fails: the text has this error at that place.
func fails(t *testing.T, read func(string) (api.Formula, int, api.Errno), s string, at int, want api.Errno) {
	t.Helper()
	f, got, err := read(s)
	if got, want := told(f, got, err), told(api.Formula{}, at, want); got != want {
		t.Errorf("%.200q: %.500s, not %.500s", s, got, want)
	}
}

// sized: a formula of that size, and as flat as can be.
func sized(size int) api.Formula {
	switch size {
	case 1:
		return yes()
	case 2:
		return not(yes())
	}
	return and(sized((size-1)/2), sized(size-1-(size-1)/2))
}

// clauseSized: a clause's formula of that size, which is odd or at least 4, with this term in its first atom.
func clauseSized(size int, t api.Term) api.Formula {
	var flat func(size int) api.Formula
	flat = func(size int) api.Formula {
		switch size {
		case 1:
			return no()
		case 3:
			return pred("p")
		case 4:
			return pred("p", fn("a"))
		case 6:
			return pred("p", fn("a"), fn("b"), fn("c"))
		}
		half := (size - 1) / 2
		if half%2 == 0 {
			half--
		}
		return or(flat(half), flat(size-1-half))
	}
	first := pred("q", t)
	return or(first, flat(size-1-Size(first)))
}

// deep: that often f of t.
func deep(times int, t api.Term) api.Term {
	for range times {
		t = fn("f", t)
	}
	return t
}

// argsOf: that many a.
func argsOf(count int) []api.Term { return slices.Repeat([]api.Term{fn("a")}, count) }

// maker: formulas by chance.
type maker struct {
	*rand.Rand
	names, vars []string
	open        bool // may variables be free?
}

func newMaker(seed int64) maker {
	return maker{
		Rand:  rand.New(rand.NewSource(seed)),
		names: []string{"a", "b", "f", "p", "aB_9", "it's", `\`, "=>", "a b", "0", "~", strings.Repeat("n", 63), strings.Repeat("'", 63)},
		vars:  []string{"X", "Y", "X0", "X1", "Xy_1", "V" + strings.Repeat("v", 62)},
	}
}

func pick[T any](m maker, list []T) T { return list[m.Intn(len(list))] }

// term: of at most that depth, of these variables.
func (m maker) term(depth int, vars []string) api.Term {
	if len(vars) > 0 && m.Intn(3) == 0 {
		return fn(pick(m, vars))
	}
	t := fn(pick(m, m.names))
	if depth > 1 {
		for range m.Intn(3) {
			t.Args = append(t.Args, m.term(depth-1, vars))
		}
	}
	return t
}

// formula: of at most that depth above its atoms; these variables are bound around it.
func (m maker) formula(depth int, bound ...string) api.Formula {
	vars := bound
	if m.open {
		vars = m.vars
	}
	kind := pick(m, []int{api.FNot, api.FAnd, api.FOr, api.FImp, api.FIff, api.FAll, api.FEx, api.FAll, api.FEx, api.FAtom})
	if depth <= 1 {
		kind = pick(m, []int{api.FAtom, api.FAtom, api.FAtom, api.FTrue, api.FFalse})
	}
	switch kids := []int{0, 0, 1, 2, 2, 2, 2, 1, 1, 0, 0}[kind]; {
	case kind == api.FAtom && m.Intn(2) == 0:
		return eq(m.term(3, vars), m.term(3, vars))
	case kind == api.FAtom:
		t := m.term(3, nil)
		for range m.Intn(3) {
			t.Args = append(t.Args, m.term(2, vars))
		}
		return pred(t.Fn, t.Args...)
	case kind == api.FAll || kind == api.FEx:
		name := pick(m, m.vars)
		return of(kind, name, m.formula(depth-1, append(slices.Clone(bound), name)...))
	case kids == 1:
		return not(m.formula(depth-1, bound...))
	case kids == 2:
		return of(kind, "", m.formula(depth-1, bound...), m.formula(depth-1, bound...))
	}
	return of(kind, "")
}
