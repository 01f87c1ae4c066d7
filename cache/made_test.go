package cache

import (
	"math/rand"
	"slices"
	"strconv"
	"strings"
	"testing"

	"assize/api"
	"assize/cnf"
	"assize/lits"
	"assize/syntax"
)

func fn(name string, args ...api.Term) api.Term { return api.Term{Fn: name, Args: args} }

func pred(name string, args ...api.Term) api.Formula { return eq(fn("@"+name, args...), fn("$true")) }
func eq(l, r api.Term) api.Formula                   { return api.Formula{Kind: api.FAtom, L: l, R: r} }

func of(kind int, name string, kids ...api.Formula) api.Formula {
	return api.Formula{Kind: kind, Name: name, Kids: kids}
}

// read: of a text that is a closed formula.
func read(t *testing.T, text string) api.Formula {
	t.Helper()
	f, at, err := syntax.Fof(text)
	if err != api.OK {
		t.Fatalf("%q: error %d at %d", text, int(err), at)
	}
	return f
}

// made: a cache that can be.
func made(t *testing.T, tenants, most int) *Cache {
	t.Helper()
	c, err := New(tenants, most)
	if err != api.OK || c == nil {
		t.Fatalf("New(%d, %d): error %d", tenants, most, int(err))
	}
	return c
}

// text: clauses as one text.
func text(list []api.Clause) string {
	var clauses []string
	for _, c := range list {
		var literals []string
		for _, l := range c {
			literals = append(literals, map[bool]string{false: "+", true: "-"}[l.Neg]+termText(l.L)+"="+termText(l.R))
		}
		clauses = append(clauses, "["+strings.Join(literals, " | ")+"]")
	}
	return strings.Join(clauses, " ")
}

func termText(t api.Term) string {
	name := strconv.Quote(t.Fn)
	if t.Fn == "" || t.Var != 0 {
		name += "X" + strconv.Itoa(t.Var)
	}
	var args []string
	for _, arg := range t.Args {
		args = append(args, termText(arg))
	}
	return name + "(" + strings.Join(args, ",") + ")"
}

// takes: the tenant is answered the clauses that cnf makes of the formula.
func takes(t *testing.T, c *Cache, tenant int, f api.Formula) []api.Clause {
	t.Helper()
	got, err := c.Clauses(tenant, f)
	want, wrong := cnf.Clauses(f, 0)
	if wrong != api.OK || err != api.OK || !slices.EqualFunc(got, want, lits.Equal) {
		t.Fatalf("Clauses(%d, %.200s): error %d\n%.1000s\nnot error %d\n%.1000s", tenant, syntax.Show(f), int(err), text(got), int(wrong), text(want))
	}
	return got
}

// fails: the tenant is answered this error, and nothing beside it.
func fails(t *testing.T, c *Cache, tenant int, f api.Formula, want api.Errno) {
	t.Helper()
	if got, err := c.Clauses(tenant, f); err != want || len(got) != 0 {
		t.Fatalf("Clauses(%d, %.200s): error %d and %d clauses, not error %d", tenant, syntax.Show(f), int(err), len(got), int(want))
	}
}

// has: what Has answers of each of the formulas, as 0 and 1.
func has(c *Cache, tenant int, forms ...api.Formula) string {
	var marks strings.Builder
	for _, f := range forms {
		marks.WriteString(map[bool]string{false: "0", true: "1"}[c.Has(tenant, f)])
	}
	return marks.String()
}

// looks: Has of the tenant, for each formula, then Len and Stored.
func looks(t *testing.T, c *Cache, tenant int, forms []api.Formula, marks string, count, stored int) {
	t.Helper()
	if got := has(c, tenant, forms...); got != marks {
		t.Errorf("tenant %d has %s, not %s", tenant, got, marks)
	}
	if got := c.Len(tenant); got != count {
		t.Errorf("tenant %d: %d keys, not %d", tenant, got, count)
	}
	if got := c.Stored(); got != stored {
		t.Errorf("%d keys stored, not %d", got, stored)
	}
}

// plain: a text that two right and closed formulas have both just if they differ by bound variables' names alone: a variable is told by how far outside its quantifier stands.
func plain(f api.Formula, around ...string) string {
	if f.Kind == api.FAll || f.Kind == api.FEx {
		return strconv.Itoa(f.Kind) + "." + plain(f.Kids[0], append(around[:len(around):len(around)], f.Name)...)
	}
	told := strconv.Itoa(f.Kind)
	if f.Kind == api.FAtom {
		told += plainTerm(f.L, around) + plainTerm(f.R, around)
	}
	for _, kid := range f.Kids {
		told += "(" + plain(kid, around...) + ")"
	}
	return told
}

func plainTerm(t api.Term, around []string) string {
	for i := len(around) - 1; i >= 0; i-- {
		if around[i] == t.Fn {
			return "<" + strconv.Itoa(len(around)-i) + ">"
		}
	}
	told := "{" + strconv.Quote(t.Fn)
	for _, arg := range t.Args {
		told += plainTerm(arg, around)
	}
	return told + "}"
}

// maker: formulas by chance.
type maker struct{ *rand.Rand }

func newMaker(seed int64) maker { return maker{rand.New(rand.NewSource(seed))} }

func pick[T any](m maker, list []T) T { return list[m.Intn(len(list))] }

func (m maker) term(depth int, bound []string) api.Term {
	if depth <= 1 || m.Intn(3) > 0 {
		return fn(pick(m, append([]string{"a", "b"}, bound...)))
	}
	return fn("f", m.term(depth-1, bound))
}

// formula: of at most that depth above its atoms; closed, if no variable is bound around it.
func (m maker) formula(depth int, bound []string) api.Formula {
	if depth <= 0 || m.Intn(12) == 0 {
		switch m.Intn(8) {
		case 0:
			return of(pick(m, []int{api.FTrue, api.FFalse}), "")
		case 1:
			return eq(m.term(2, bound), m.term(2, bound))
		}
		return pred(pick(m, []string{"p", "q"}), m.term(2, bound), m.term(2, bound))
	}
	kind := pick(m, []int{api.FNot, api.FAnd, api.FOr, api.FImp, api.FIff, api.FAll, api.FEx, api.FAll, api.FEx})
	switch kind {
	case api.FNot:
		return of(kind, "", m.formula(depth-1, bound))
	case api.FAll, api.FEx:
		name := pick(m, []string{"X", "Y", "X0", "X1"})
		return of(kind, name, m.formula(depth-1, append(bound[:len(bound):len(bound)], name)))
	}
	return of(kind, "", m.formula(depth-1, bound), m.formula(depth-1, bound))
}

// renamed: a formula that differs by bound variables' names alone, or not even so. A name may stand for several quantifiers, also within one another, where no variable comes under another one's.
func (m maker) renamed(f api.Formula, names map[string]string) api.Formula {
	g := api.Formula{Kind: f.Kind, L: renamedTerm(f.L, names), R: renamedTerm(f.R, names)}
	if f.Kind == api.FAll || f.Kind == api.FEx {
		inner := map[string]string{}
		for _, free := range syntax.Free(f) {
			inner[free] = names[free]
		}
		taken := map[string]int{}
		for _, name := range inner {
			taken[name]++
		}
		g.Name = pick(m, []string{"X", "Y", "Z", "X0", "X1", "X2"})
		for taken[g.Name] > 0 {
			g.Name += "V"
		}
		inner[f.Name] = g.Name
		names = inner
	}
	for _, kid := range f.Kids {
		g.Kids = append(g.Kids, m.renamed(kid, names))
	}
	return g
}

func renamedTerm(t api.Term, names map[string]string) api.Term {
	if name := names[t.Fn]; name != "" {
		return fn(name)
	}
	u := api.Term{Fn: t.Fn}
	for _, arg := range t.Args {
		u.Args = append(u.Args, renamedTerm(arg, names))
	}
	return u
}

// wrong: formulas that have no clauses, each with the error that cnf tells of it.
func wrong(t *testing.T) map[string]api.Formula {
	t.Helper()
	wide := pred("p", slices.Repeat([]api.Term{fn("a")}, api.MaxArgs+1)...)
	deep, shared := pred("p"), pred("p")
	for range api.MaxDepth {
		deep = of(api.FNot, "", deep)
	}
	for i := range 20 {
		shared = of(api.FIff, "", pred("q"+strconv.Itoa(i)), shared)
	}
	return map[string]api.Formula{
		"no kind":     {},
		"no kids":     of(api.FAnd, ""),
		"wide":        wide,
		"deep":        deep,
		"free":        pred("p", fn("X")),
		"half free":   of(api.FAnd, "", pred("p"), of(api.FEx, "Y", pred("p", fn("X")))),
		"both":        of(api.FAnd, "", pred("p", fn("X")), of(0, "")),
		"great":       shared,
		"variable":    pred("p", api.Term{Var: 3}),
		"dollar":      eq(fn("$true"), fn("$true")),
		"name":        of(api.FTrue, "X"),
		"many":        conjunction(api.MaxClauses + 1),
		"low binding": of(api.FAll, "x", pred("p")),
	}
}

// conjunction: of that many atoms, as flat as can be.
func conjunction(count int) api.Formula {
	if count == 1 {
		return pred("p")
	}
	return of(api.FAnd, "", conjunction(count/2), conjunction(count-count/2))
}
