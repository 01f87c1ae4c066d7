package nnf

import (
	"fmt"
	"hash/fnv"

	"assize/api"
)

// modelTurned: the chapter's words, without taking constants in.
func modelTurned(f api.Formula, negated bool) api.Formula {
	kid := func(i int, negated bool) api.Formula { return modelTurned(f.Kids[i], negated) }
	switch f.Kind {
	case api.FNot:
		return kid(0, !negated)
	case api.FImp:
		if negated {
			return and(kid(0, false), kid(1, true))
		}
		return or(kid(0, true), kid(1, false))
	case api.FIff:
		if negated {
			return and(or(kid(0, false), kid(1, false)), or(kid(0, true), kid(1, true)))
		}
		return and(or(kid(0, true), kid(1, false)), or(kid(0, false), kid(1, true)))
	}
	if !negated {
		g := f
		g.Kids = nil
		for i := range f.Kids {
			g.Kids = append(g.Kids, kid(i, false))
		}
		return g
	}
	switch f.Kind {
	case api.FAnd:
		return or(kid(0, true), kid(1, true))
	case api.FOr:
		return and(kid(0, true), kid(1, true))
	case api.FAll:
		return exists(f.Name, kid(0, true))
	case api.FEx:
		return forAll(f.Name, kid(0, true))
	case api.FTrue:
		return no()
	case api.FFalse:
		return yes()
	}
	return not(f)
}

// modelTaken: constants are taken in, from the inside.
func modelTaken(f api.Formula) api.Formula {
	g := f
	g.Kids = nil
	for _, kid := range f.Kids {
		g.Kids = append(g.Kids, modelTaken(kid))
	}
	is := func(i, kind int) bool { return g.Kids[i].Kind == kind }
	switch {
	case f.Kind == api.FAnd && (is(0, api.FFalse) || is(1, api.FFalse)):
		return no()
	case f.Kind == api.FOr && (is(0, api.FTrue) || is(1, api.FTrue)):
		return yes()
	case f.Kind == api.FAnd && is(0, api.FTrue), f.Kind == api.FOr && is(0, api.FFalse):
		return g.Kids[1]
	case f.Kind == api.FAnd && is(1, api.FTrue), f.Kind == api.FOr && is(1, api.FFalse):
		return g.Kids[0]
	case (f.Kind == api.FAll || f.Kind == api.FEx) && (is(0, api.FTrue) || is(0, api.FFalse)):
		return g.Kids[0]
	}
	return g
}

func modelNnf(f api.Formula) api.Formula { return modelTaken(modelTurned(f, false)) }

// modelFree: the free variables.
func modelFree(f api.Formula) map[string]bool {
	free := map[string]bool{}
	var terms func(list ...api.Term)
	terms = func(list ...api.Term) {
		for _, t := range list {
			if t.Fn != "" && 'A' <= t.Fn[0] && t.Fn[0] <= 'Z' {
				free[t.Fn] = true
			}
			terms(t.Args...)
		}
	}
	terms(f.L, f.R)
	for _, kid := range f.Kids {
		for name := range modelFree(kid) {
			free[name] = true
		}
	}
	if f.Kind == api.FAll || f.Kind == api.FEx {
		delete(free, f.Name)
	}
	return free
}

// modelMini: the chapter's words.
func modelMini(f api.Formula) api.Formula {
	g := f
	g.Kids = nil
	for _, kid := range f.Kids {
		g.Kids = append(g.Kids, modelMini(kid))
	}
	if f.Kind == api.FAll || f.Kind == api.FEx {
		return modelPushed(f.Kind, f.Name, g.Kids[0])
	}
	return g
}

func modelPushed(kind int, name string, f api.Formula) api.Formula {
	if !modelFree(f)[name] {
		return f
	}
	if kind == api.FAll && f.Kind == api.FAnd || kind == api.FEx && f.Kind == api.FOr {
		return of(f.Kind, "", modelPushed(kind, name, f.Kids[0]), modelPushed(kind, name, f.Kids[1]))
	}
	if kind == api.FAll && f.Kind == api.FOr || kind == api.FEx && f.Kind == api.FAnd {
		first, second := modelFree(f.Kids[0])[name], modelFree(f.Kids[1])[name]
		if first && !second {
			return of(f.Kind, "", modelPushed(kind, name, f.Kids[0]), f.Kids[1])
		}
		if second && !first {
			return of(f.Kind, "", f.Kids[0], modelPushed(kind, name, f.Kids[1]))
		}
	}
	return of(kind, name, f)
}

// world: an interpretation whose functions and predicates hang on its seed.
type world struct {
	things int
	seed   int
}

// value: what the term is, by number.
func (w world) value(t api.Term, env map[string]int) int {
	if thing, ok := env[t.Fn]; ok {
		return thing
	}
	return w.chance(t.Fn, w.values(t.Args, env)) % w.things
}

func (w world) values(list []api.Term, env map[string]int) []int {
	var things []int
	for _, t := range list {
		things = append(things, w.value(t, env))
	}
	return things
}

// chance: a number that hangs on the name and its things alone.
func (w world) chance(name string, things []int) int {
	h := fnv.New64a()
	fmt.Fprint(h, w.seed, name, things)
	return int(h.Sum64() >> 7 & 0xffffff)
}

// holds: as the signs say; env tells which things the free variables are.
func (w world) holds(f api.Formula, env map[string]int) bool {
	kid := func(i int) bool { return w.holds(f.Kids[i], env) }
	switch f.Kind {
	case api.FTrue:
		return true
	case api.FFalse:
		return false
	case api.FNot:
		return !kid(0)
	case api.FAnd:
		return kid(0) && kid(1)
	case api.FOr:
		return kid(0) || kid(1)
	case api.FImp:
		return !kid(0) || kid(1)
	case api.FIff:
		return kid(0) == kid(1)
	case api.FAll:
		return !w.some(f, env, false)
	case api.FEx:
		return w.some(f, env, true)
	}
	if f.R.Fn == "$true" {
		return w.chance(f.L.Fn, w.values(f.L.Args, env))%2 == 0
	}
	return w.value(f.L, env) == w.value(f.R, env)
}

// some: is there a thing for which the quantifier's kid holds, or does not?
func (w world) some(f api.Formula, env map[string]int, want bool) bool {
	inner := map[string]int{}
	for name, thing := range env {
		inner[name] = thing
	}
	for thing := range w.things {
		inner[f.Name] = thing
		if w.holds(f.Kids[0], inner) == want {
			return true
		}
	}
	return false
}
