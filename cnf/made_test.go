package cnf

import (
	"fmt"
	"math/rand"
	"strconv"
	"strings"
	"testing"

	"assize/api"
	"assize/syntax"
)

func fn(name string, args ...api.Term) api.Term { return api.Term{Fn: name, Args: args} }
func x(number int) api.Term                     { return api.Term{Var: number} }

func pred(name string, args ...api.Term) api.Formula { return eq(fn("@"+name, args...), fn("$true")) }
func eq(l, r api.Term) api.Formula                   { return api.Formula{Kind: api.FAtom, L: l, R: r} }
func yes() api.Formula                               { return api.Formula{Kind: api.FTrue} }
func no() api.Formula                                { return api.Formula{Kind: api.FFalse} }
func not(f api.Formula) api.Formula                  { return of(api.FNot, "", f) }
func and(f, g api.Formula) api.Formula               { return of(api.FAnd, "", f, g) }
func or(f, g api.Formula) api.Formula                { return of(api.FOr, "", f, g) }
func iff(f, g api.Formula) api.Formula               { return of(api.FIff, "", f, g) }

func of(kind int, name string, kids ...api.Formula) api.Formula {
	return api.Formula{Kind: kind, Name: name, Kids: kids}
}

// over: the formula with a quantifier for each of the names, the first one outermost.
func over(kind int, names []string, f api.Formula) api.Formula {
	for i := len(names) - 1; i >= 0; i-- {
		f = of(kind, names[i], f)
	}
	return f
}

// names: that many variables' names.
func names(letter string, count int) []string {
	var list []string
	for i := range count {
		list = append(list, letter+strconv.Itoa(i))
	}
	return list
}

func vars(names []string) []api.Term {
	var list []api.Term
	for _, name := range names {
		list = append(list, fn(name))
	}
	return list
}

// balanced: one formula of many by FAnd or FOr, as flat as can be, from the left to the right.
func balanced(kind int, list []api.Formula) api.Formula {
	if len(list) == 1 {
		return list[0]
	}
	half := len(list) / 2
	return of(kind, "", balanced(kind, list[:half]), balanced(kind, list[half:]))
}

// atoms: that many predicates without terms, or of these.
func atoms(name string, count int, args ...api.Term) []api.Formula {
	var list []api.Formula
	for i := range count {
		list = append(list, pred(name+strconv.Itoa(i), args...))
	}
	return list
}

// all: FAnd of that many atoms.
func all(name string, count int, args ...api.Term) api.Formula {
	return balanced(api.FAnd, atoms(name, count, args...))
}

// read: of a text that is a closed formula.
func read(t *testing.T, text string) api.Formula {
	t.Helper()
	f, at, err := syntax.Fof(text)
	if err != api.OK {
		t.Fatalf("%q: error %d at %d", text, int(err), at)
	}
	return f
}

// shown: a formula to be read by people.
func shown(f api.Formula) string {
	if text := syntax.Show(f); text != "" {
		return text
	}
	return fmt.Sprint(f)
}

// text: clauses as a text that no other ones have, where no name has such marks as stand between names.
func text(list []api.Clause) string {
	var clauses []string
	for _, c := range list {
		var literals []string
		for _, l := range c {
			literals = append(literals, literalText(l))
		}
		if len(c) == 0 {
			literals = []string{"[]"}
		}
		clauses = append(clauses, strings.Join(literals, " | "))
	}
	return strings.Join(clauses, "; ")
}

func literalText(l api.Lit) string {
	if strings.HasPrefix(l.L.Fn, "@") && l.L.Var == 0 && termText(l.R) == "$true" {
		return map[bool]string{true: "~"}[l.Neg] + termText(l.L)[1:]
	}
	return termText(l.L) + map[bool]string{false: " = ", true: " != "}[l.Neg] + termText(l.R)
}

func termText(t api.Term) string {
	name := t.Fn
	if name == "" {
		name = "X" + strconv.Itoa(t.Var)
	} else if t.Var != 0 {
		name += "?" + strconv.Itoa(t.Var)
	}
	if len(t.Args) == 0 {
		return name
	}
	var args []string
	for _, arg := range t.Args {
		args = append(args, termText(arg))
	}
	return name + "(" + strings.Join(args, ",") + ")"
}

// gives: the formula's clauses, as a text.
func gives(t *testing.T, f api.Formula, tag int, want string) {
	t.Helper()
	if got, err := Clauses(f, tag); err != api.OK || text(got) != want {
		t.Fatalf("%.300s: error %d\n%.2000s\nnot\n%.2000s", shown(f), int(err), text(got), want)
	}
}

// made: the formula's clauses; there is no error.
func made(t *testing.T, f api.Formula, tag int) []api.Clause {
	t.Helper()
	got, err := Clauses(f, tag)
	if err != api.OK {
		t.Fatalf("%.300s: error %d", shown(f), int(err))
	}
	return got
}

// fails: this error, and nothing beside it.
func fails(t *testing.T, f api.Formula, tag int, want api.Errno) {
	t.Helper()
	if got, err := Clauses(f, tag); err != want || len(got) != 0 {
		t.Fatalf("%.300s: error %d and %d clauses, not error %d", shown(f), int(err), len(got), int(want))
	}
}

// maker: formulas by chance.
type maker struct {
	*rand.Rand
	kinds  []int
	ground bool // without variables
}

func newMaker(seed int64, kinds ...int) maker {
	return maker{Rand: rand.New(rand.NewSource(seed)), kinds: kinds}
}

// allKinds: of formulas that have kids.
func allKinds() []int {
	return []int{api.FNot, api.FAnd, api.FOr, api.FImp, api.FIff, api.FAll, api.FEx}
}

func pick[T any](m maker, list []T) T { return list[m.Intn(len(list))] }

func (m maker) term(depth int, bound []string) api.Term {
	if depth <= 1 || m.Intn(3) > 0 {
		return fn(pick(m, append([]string{"a"}, bound...)))
	}
	return fn("f", m.term(depth-1, bound))
}

func (m maker) atom(bound []string) api.Formula {
	name := pick(m, []string{"p", "q", "r", "s"})
	switch {
	case m.ground:
		return pred(name)
	case m.Intn(6) == 0:
		return eq(m.term(2, bound), m.term(2, bound))
	case m.Intn(2) == 0:
		return pred(name+"2", m.term(2, bound), m.term(2, bound))
	}
	return pred(name, m.term(2, bound))
}

// formula: of at most that depth above its atoms; closed, if no variable is bound around it.
func (m maker) formula(depth int, bound []string) api.Formula {
	if depth <= 0 || m.Intn(12) == 0 {
		if m.Intn(40) == 0 {
			return pick(m, []api.Formula{yes(), no()})
		}
		return m.atom(bound)
	}
	kind := pick(m, m.kinds)
	switch kind {
	case api.FNot:
		return not(m.formula(depth-1, bound))
	case api.FAll, api.FEx:
		name := pick(m, []string{"X", "Y", "Z", "V", "W"})
		return of(kind, name, m.formula(depth-1, append(bound[:len(bound):len(bound)], name)))
	}
	return of(kind, "", m.formula(depth-1, bound), m.formula(depth-1, bound))
}
