package cnf

import (
	"fmt"
	"hash/fnv"
	"slices"
	"strconv"
	"strings"
	"testing"

	"assize/api"
	"assize/lits"
	"assize/syntax"
)

// world: an interpretation whose functions and predicates hang on its seed; Skolem terms and definitions are told by the formulas that they come from, or, without these, by another seed.
type world struct {
	things, seed int
	told         *model
	wild         int
}

// chance: a number that hangs on the name and its things alone.
func (w world) chance(name string, things []int) int {
	h := fnv.New64a()
	if strings.Contains(name, "$") {
		fmt.Fprint(h, "wild", w.wild)
	}
	fmt.Fprint(h, w.seed, name, things)
	return int(h.Sum64() >> 7 & 0xffffff)
}

// value: what the term is, by number; variables of clauses are named as those of formulas are.
func (w world) value(t api.Term, env map[string]int) int {
	name := t.Fn
	if name == "" {
		name = "X" + strconv.Itoa(t.Var)
	}
	if thing, ok := env[name]; ok {
		return thing
	}
	things := w.values(t.Args, env)
	if w.told != nil && strings.HasPrefix(name, "$s") {
		return w.witness(w.told.skolems[name], things)
	}
	return w.chance(name, things) % w.things
}

func (w world) values(list []api.Term, env map[string]int) []int {
	var things []int
	for _, t := range list {
		things = append(things, w.value(t, env))
	}
	return things
}

// within: what the formula's free variables are, where these are the arguments.
func within(f api.Formula, things []int) map[string]int {
	env := map[string]int{}
	for i, name := range modelFree(f) {
		env[name] = things[i]
	}
	return env
}

// witness: a thing for which the kid of FEx holds, if there is one.
func (w world) witness(f api.Formula, things []int) int {
	env := within(f, things)
	for thing := range w.things {
		env[f.Name] = thing
		if w.holds(f.Kids[0], env) {
			return thing
		}
	}
	return 0
}

// same: are both sides one thing, or one truth?
func (w world) same(l, r api.Term, env map[string]int) bool {
	if r.Fn != "$true" {
		return w.value(l, env) == w.value(r, env)
	}
	things := w.values(l.Args, env)
	if w.told != nil && strings.HasPrefix(l.Fn, "@$d") {
		f := w.told.defs[l.Fn]
		return w.holds(f, within(f, things))
	}
	return w.chance(l.Fn, things)%2 == 0
}

// holds: as the signs say; env tells which things the free variables are.
func (w world) holds(f api.Formula, env map[string]int) bool {
	kid := func(i int) bool { return w.holds(f.Kids[i], env) }
	switch f.Kind {
	case api.FTrue, api.FFalse:
		return f.Kind == api.FTrue
	case api.FNot:
		return !kid(0)
	case api.FAnd:
		return kid(0) && kid(1)
	case api.FOr:
		return kid(0) || kid(1)
	case api.FImp:
		return !kid(0) || kid(1)
	case api.FIff:
		return kid(0) == kid(1)
	case api.FAll, api.FEx:
		inner := map[string]int{}
		for name, thing := range env {
			inner[name] = thing
		}
		for thing := range w.things {
			inner[f.Name] = thing
			if w.holds(f.Kids[0], inner) == (f.Kind == api.FEx) {
				return f.Kind == api.FEx
			}
		}
		return f.Kind == api.FAll
	}
	return w.same(f.L, f.R, env)
}

// clause: does it hold, whatever things its variables are?
func (w world) clause(c api.Clause) bool {
	env := map[string]int{}
	var all func(vars []int) bool
	all = func(vars []int) bool {
		if len(vars) == 0 {
			return slices.ContainsFunc(c, func(l api.Lit) bool { return w.same(l.L, l.R, env) != l.Neg })
		}
		for thing := range w.things {
			env["X"+strconv.Itoa(vars[0])] = thing
			if !all(vars[1:]) {
				return false
			}
		}
		return true
	}
	return all(lits.Vars(c))
}

func (w world) clauses(list []api.Clause) bool {
	return !slices.ContainsFunc(list, func(c api.Clause) bool { return !w.clause(c) })
}

// P1503: where the formula holds, Skolem terms and definitions can be told so that all clauses hold; where it does not, they hold whatever is told in no interpretation.
func TestMeansChance(t *testing.T) {
	holds, fails, defined, skolems := 0, 0, 0, 0
	for _, kinds := range [][]int{append(allKinds(), api.FIff, api.FAll, api.FEx), {api.FAnd, api.FOr, api.FAll, api.FEx, api.FNot}} {
		m := newMaker(153, kinds...)
		for i := range 900 {
			f := m.formula(1+m.Intn(7), nil)
			list, err := Clauses(f, 2)
			if err != api.OK || slices.ContainsFunc(list, func(c api.Clause) bool { return len(lits.Vars(c)) > 5 }) {
				continue
			}
			_, _, met := modelClauses(f, 2)
			defined += min(1, len(met.defs))
			skolems += min(1, len(met.skolems))
			for seed := range 6 {
				w := world{things: 1 + (seed+i)%3, seed: seed}
				told := world{things: w.things, seed: seed, told: &met}
				want := w.holds(f, nil)
				if told.clauses(list) != want {
					t.Fatalf("%s: %v in world %d, but not so %s", shown(f), want, seed, text(list))
				}
				holds, fails = holds+map[bool]int{true: 1}[want], fails+map[bool]int{false: 1}[want]
				for wild := range 3 {
					w.wild = wild
					if !want && w.clauses(list) {
						t.Fatalf("%s does not hold in world %d, but all of %s", shown(f), seed, text(list))
					}
				}
			}
		}
	}
	if holds < 1000 || fails < 1000 || defined < 100 || skolems < 500 {
		t.Errorf("too few of a kind: %d hold, %d do not; %d with definitions, %d with Skolem terms", holds, fails, defined, skolems)
	}
}

// P1503: of propositional formulas all interpretations, and all that definitions may be.
func TestMeansPropositional(t *testing.T) {
	m := newMaker(154, api.FAnd, api.FOr, api.FIff, api.FNot)
	m.ground = true
	defined := 0
	for range 1500 {
		f := m.formula(2+m.Intn(4), nil)
		list, err := Clauses(f, 0)
		if err != api.OK {
			continue
		}
		names := predicates(list)
		if len(names) > 10 {
			continue
		}
		defined += map[bool]int{true: 1}[strings.Contains(text(list), "$d")]
		some := map[string]bool{}
		for bits := range 1 << len(names) {
			truth, own := map[string]bool{}, ""
			for i, name := range names {
				truth[name] = bits>>i&1 == 1
				if !strings.Contains(name, "$") {
					own += name + map[bool]string{true: "+", false: "-"}[truth[name]]
				}
			}
			some[own] = some[own] || propClauses(list, truth)
		}
		for own, there := range some {
			// a predicate that is in no clause may be either way
			truth := map[string]bool{}
			for _, name := range names {
				truth[name] = strings.Contains(own, name+"+")
			}
			if propFormula(f, truth, false) != there || propFormula(f, truth, true) != there {
				t.Fatalf("%s for %s: clauses %v, %s", shown(f), own, there, text(list))
			}
		}
	}
	if defined < 50 {
		t.Errorf("only %d with definitions", defined)
	}
}

// predicates: the names of all in the clauses.
func predicates(list []api.Clause) []string {
	var names []string
	for _, c := range list {
		for _, l := range c {
			names = append(names, l.L.Fn)
		}
	}
	slices.Sort(names)
	return slices.Compact(names)
}

func propClauses(list []api.Clause, truth map[string]bool) bool {
	return !slices.ContainsFunc(list, func(c api.Clause) bool {
		return !slices.ContainsFunc(c, func(l api.Lit) bool { return truth[l.L.Fn] != l.Neg })
	})
}

// propFormula: does it hold? Predicates of which nothing is told are the other way.
func propFormula(f api.Formula, truth map[string]bool, other bool) bool {
	kid := func(i int) bool { return propFormula(f.Kids[i], truth, other) }
	switch f.Kind {
	case api.FTrue, api.FFalse:
		return f.Kind == api.FTrue
	case api.FNot:
		return !kid(0)
	case api.FAnd:
		return kid(0) && kid(1)
	case api.FOr:
		return kid(0) || kid(1)
	case api.FIff:
		return kid(0) == kid(1)
	}
	holds, is := truth[f.L.Fn]
	return is && holds || !is && other
}

// P1503: formulas that differ by names of bound variables alone have the same clauses.
func TestMeansNames(t *testing.T) {
	m := newMaker(155, append(allKinds(), api.FAll, api.FEx)...)
	for range 500 {
		f := m.formula(2+m.Intn(5), nil)
		list, err := Clauses(f, 6)
		again, same := Clauses(syntax.Canon(f), 6)
		if err != same || text(list) != text(again) {
			t.Fatalf("%s: %s and %s", shown(f), text(list), text(again))
		}
	}
}
