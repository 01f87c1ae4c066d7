package cnf

import (
	"slices"
	"sort"
	"strconv"
	"testing"

	"assize/api"
	"assize/lits"
	"assize/nnf"
	"assize/syntax"
)

// model: the chapter's words from the inside: all variables are names at first, and a Skolem term comes into the clauses when its quantifier is left.
type model struct {
	tag     string
	big     bool
	skolems map[string]api.Formula // the FEx formula of each
	defs    map[string]api.Formula // the second kid of each FOr with a definition
	around  map[string]int         // FEx quantifiers around
	deep    int                    // definitions with a Skolem term from further out among their arguments
}

// modelReady: of a formula that is right and closed.
func modelReady(f api.Formula) (api.Formula, api.Errno) {
	f, err := nnf.Nnf(f)
	if err == api.OK {
		f, err = nnf.Mini(f)
	}
	return syntax.Canon(f), err
}

// modelClauses: what Clauses should answer, and what was met on the way.
func modelClauses(f api.Formula, tag int) ([]api.Clause, api.Errno, model) {
	m := model{tag: strconv.Itoa(tag), skolems: map[string]api.Formula{}, defs: map[string]api.Formula{}, around: map[string]int{}}
	f, err := modelReady(f)
	if err != api.OK {
		return nil, err, m
	}
	var list []api.Clause
	for _, c := range m.clauses(f) {
		c = lits.Clean(modelClause(c, modelNumbered))
		if !lits.Tautology(c) {
			list = append(list, lits.Normal(c))
		}
	}
	if m.big {
		return nil, api.ErrBig, m
	}
	return list, api.OK, m
}

func (m *model) clauses(f api.Formula) []api.Clause {
	var out []api.Clause
	switch f.Kind {
	case api.FFalse:
		out = []api.Clause{{}}
	case api.FAtom:
		out = []api.Clause{{{L: f.L, R: f.R}}}
	case api.FNot:
		out = []api.Clause{{{Neg: true, L: f.Kids[0].L, R: f.Kids[0].R}}}
	case api.FAnd:
		out = append(out, m.clauses(f.Kids[0])...)
		out = append(out, m.clauses(f.Kids[1])...)
	case api.FOr:
		out = m.either(f)
	case api.FAll:
		out = m.clauses(f.Kids[0])
	case api.FEx:
		m.around[f.Name]++
		s := m.symbol("$s"+f.Name[1:], f)
		m.skolems[s.Fn] = f
		for _, c := range m.clauses(f.Kids[0]) {
			out = append(out, modelClause(c, func(t api.Term) api.Term {
				if t.Fn == f.Name {
					return s
				}
				return t
			}))
		}
		m.around[f.Name]--
	}
	m.big = m.big || len(out) > 400
	for _, c := range out {
		m.big = m.big || len(c) > 60 || lits.Size(c) > 4000
	}
	if m.big {
		return nil
	}
	return out
}

func (m *model) either(f api.Formula) []api.Clause {
	first, second := m.clauses(f.Kids[0]), m.clauses(f.Kids[1])
	var out []api.Clause
	if len(first) > 1 && len(second) > 1 && len(first)*len(second) > 16 {
		d := m.symbol("@$d"+strconv.Itoa(len(m.defs)), f.Kids[1])
		m.defs[d.Fn] = f.Kids[1]
		if slices.ContainsFunc(d.Args, func(t api.Term) bool { return m.around[t.Fn] > 0 }) {
			m.deep++
		}
		for _, c := range first {
			out = append(out, append(c[:len(c):len(c)], api.Lit{L: d, R: fn("$true")}))
		}
		for _, c := range second {
			out = append(out, append(api.Clause{{Neg: true, L: d, R: fn("$true")}}, c...))
		}
		return out
	}
	for _, c := range first {
		for _, d := range second {
			out = append(out, append(c[:len(c):len(c)], d...))
		}
	}
	return out
}

func (m *model) symbol(name string, f api.Formula) api.Term {
	free := modelFree(f)
	m.big = m.big || len(free) > 16
	return fn(name+"_"+m.tag, vars(free)...)
}

// modelFree: the names of the free variables, rising by number.
func modelFree(f api.Formula) []string {
	met := map[string]int{}
	var terms func(list ...api.Term)
	terms = func(list ...api.Term) {
		for _, t := range list {
			if t.Fn != "" && 'A' <= t.Fn[0] && t.Fn[0] <= 'Z' {
				met[t.Fn]++
			}
			terms(t.Args...)
		}
	}
	terms(f.L, f.R)
	for _, kid := range f.Kids {
		for _, name := range modelFree(kid) {
			met[name]++
		}
	}
	if f.Kind == api.FAll || f.Kind == api.FEx {
		delete(met, f.Name)
	}
	var free []string
	for name := range met {
		free = append(free, name)
	}
	sort.Slice(free, func(i, k int) bool { return modelNumber(free[i]) < modelNumber(free[k]) })
	return free
}

func modelNumber(name string) int {
	number, err := strconv.Atoi(name[1:])
	if err != nil || name[0] != 'X' {
		panic(name)
	}
	return number
}

// modelClause: the clause with each part of its terms as the call makes it, from the inside.
func modelClause(c api.Clause, each func(api.Term) api.Term) api.Clause {
	var walk func(t api.Term) api.Term
	walk = func(t api.Term) api.Term {
		u := api.Term{Var: t.Var, Fn: t.Fn}
		for _, arg := range t.Args {
			u.Args = append(u.Args, walk(arg))
		}
		return each(u)
	}
	d := api.Clause{}
	for _, l := range c {
		d = append(d, api.Lit{Neg: l.Neg, L: walk(l.L), R: walk(l.R)})
	}
	return d
}

func modelNumbered(t api.Term) api.Term {
	if 'A' <= t.Fn[0] && t.Fn[0] <= 'Z' {
		return x(modelNumber(t.Fn))
	}
	return t
}

// P1501: formulas by chance, held against the chapter's words.
func TestClausesChance(t *testing.T) {
	for _, shape := range []struct {
		kinds                 []int
		least, most           int
		ground                bool
		count, ok, big        int
		defined, twice, outer int
	}{
		{kinds: append(allKinds(), api.FIff), least: 1, most: 7, count: 1500, ok: 1000, defined: 200, twice: 100, outer: 20},
		{kinds: []int{api.FAnd, api.FOr, api.FAll, api.FEx}, least: 6, most: 15, count: 800, ok: 500, defined: 200, twice: 100, outer: 20},
		{kinds: []int{api.FAnd, api.FOr, api.FNot, api.FIff}, least: 3, most: 7, ground: true, count: 800, ok: 500, defined: 200, twice: 100},
		{kinds: []int{api.FAnd, api.FAnd, api.FOr}, least: 9, most: 10, ground: true, count: 200, ok: 20, big: 20, defined: 20, twice: 20},
	} {
		m := newMaker(151, shape.kinds...)
		m.ground = shape.ground
		ok, big, defined, twice, outer := 0, 0, 0, 0, 0
		for range shape.count {
			f := m.formula(shape.least+m.Intn(shape.most-shape.least+1), nil)
			if syntax.Right(f) != api.OK {
				continue
			}
			tag := pick(m, []int{0, 1, 27, 1000000})
			want, err, met := modelClauses(f, tag)
			if err != api.OK {
				fails(t, f, tag, err)
				big += map[bool]int{true: 1}[met.big]
				continue
			}
			gives(t, f, tag, text(want))
			ok++
			defined += min(1, len(met.defs))
			twice += min(1, len(met.defs)/2)
			outer += min(1, met.deep)
		}
		if ok < shape.ok || big < shape.big || defined < shape.defined || twice < shape.twice || outer < shape.outer {
			t.Errorf("too few of a kind: %d right, %d too great; %d with definitions, %d with more, %d within FEx", ok, big, defined, twice, outer)
		}
	}
}

// P1501: all small formulas.
func TestClausesAll(t *testing.T) {
	leaves := []api.Formula{no(), pred("p"), pred("q", fn("X")), not(pred("r", fn("Y"), fn("X"))), eq(fn("Y"), fn("f", fn("X")))}
	list := leaves
	for _, kinds := range [][]int{allKinds(), allKinds()} {
		var next []api.Formula
		for _, f := range list {
			for _, kind := range kinds {
				switch kind {
				case api.FNot:
					next = append(next, not(f))
				case api.FAll, api.FEx:
					next = append(next, of(kind, "X", f), of(kind, "Y", f))
				default:
					for _, g := range leaves {
						next = append(next, of(kind, "", f, g), of(kind, "", g, f))
					}
				}
			}
		}
		list = next
	}
	for i, f := range list {
		kinds := [][2]int{{api.FAll, api.FAll}, {api.FAll, api.FEx}, {api.FEx, api.FAll}, {api.FEx, api.FEx}}[i%4]
		f = of(kinds[0], "X", of(kinds[1], "Y", f))
		want, err, _ := modelClauses(f, 4)
		if err != api.OK {
			t.Fatalf("%s: error %d", shown(f), int(err))
		}
		gives(t, f, 4, text(want))
	}
	if len(list) < 5000 {
		t.Errorf("only %d formulas", len(list))
	}
}
