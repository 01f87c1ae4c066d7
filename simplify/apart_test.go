package simplify

import (
	"fmt"
	"slices"
	"sync"
	"testing"

	"assize/api"
	"assize/kbo"
	"assize/multi"
)

// roomyTerm: the term in new memory, its lists with spare room with something in it.
func roomyTerm(t api.Term) api.Term {
	args := []api.Term{}
	for _, arg := range t.Args {
		args = append(args, roomyTerm(arg))
	}
	t.Args = append(args, fn("spare"), fn("spare"))[:len(args)]
	return t
}

func roomy(c api.Clause) api.Clause {
	var made api.Clause
	for _, l := range c {
		made = append(made, api.Lit{Neg: l.Neg, L: roomyTerm(l.L), R: roomyTerm(l.R)})
	}
	return append(made, yes(fn("spare"), fn("spare")))[:len(made)]
}

func roomyUnits(l []Unit) []Unit {
	var made []Unit
	for _, u := range l {
		made = append(made, Unit{Id: u.Id, C: roomy(u.C)})
	}
	return append(made, Unit{Id: -99, C: of(yes(fn("spare"), fn("spare")))})[:len(made)]
}

// whole: all that lists have, their spare room too, as a text.
func whole(t api.Term) string {
	out := fmt.Sprint(t.Var, t.Fn, len(t.Args), "(")
	for _, arg := range t.Args[:cap(t.Args)] {
		out += whole(arg) + ","
	}
	return out + ")"
}

func wholeClause(c api.Clause) string {
	out := fmt.Sprint(len(c))
	for _, l := range c[:cap(c)] {
		out += fmt.Sprint(l.Neg) + whole(l.L) + whole(l.R)
	}
	return out
}

func wholeUnits(l []Unit) string {
	out := fmt.Sprint(len(l))
	for _, u := range l[:cap(l)] {
		out += fmt.Sprint(u.Id) + wholeClause(u.C)
	}
	return out
}

// spoil: writes over all lists of the steps, their spare room too, and tells whether one of them was written over before.
func spoil(l []api.Step) (twice bool) {
	bad := fn("spoilt")
	var spoilTerm func(t api.Term)
	spoilTerm = func(t api.Term) {
		all := t.Args[:cap(t.Args)]
		for i := range all {
			twice = twice || all[i].Fn == bad.Fn
			spoilTerm(all[i])
			all[i] = bad
		}
	}
	for _, s := range l {
		place := s.Pos[:cap(s.Pos)]
		for i := range place {
			twice = twice || place[i] == -7
			place[i] = -7
		}
		binds := slices.Concat(s.SA[:cap(s.SA)], s.SB[:cap(s.SB)])
		for _, b := range binds {
			twice = twice || b.T.Fn == bad.Fn
			spoilTerm(b.T)
		}
		for _, own := range [][]api.Bind{s.SA[:cap(s.SA)], s.SB[:cap(s.SB)]} {
			for i := range own {
				own[i] = api.Bind{Var: -7, T: bad}
			}
		}
		c := s.C[:cap(s.C)]
		for i := range c {
			twice = twice || c[i].L.Fn == bad.Fn
			spoilTerm(c[i].L)
			spoilTerm(c[i].R)
			c[i] = yes(bad, bad)
		}
	}
	clear(l[:cap(l)])
	return twice
}

// Rules 4 and 5: what is handed in is not changed, its spare room neither; what is handed out shares no memory; asked twice, the answer is one.
func TestApart(t *testing.T) {
	m := newMaker(180)
	steps, cleaned, subsumed := 0, 0, 0
	for round := range 2000 {
		o, units, c, d := m.order(), m.units(5, 3), m.clause(3, 4), roomy(m.clause(4, 2))
		if round%50 == 0 {
			units, c = append(units, crowd()...), append(of(bulk()), c...)
		}
		units, c = roomyUnits(units), roomy(c)
		names := append(o.G.Names, "spare")
		all := func() string { return wholeUnits(units) + wholeClause(c) + wholeClause(d) + fmt.Sprint(names, o.G) }
		before := all()
		ask := func() ([]api.Step, string) {
			l, lost := Rewrite(o, units, c)
			s, ok := Clean(d)
			covered := Subsumes(c, d)
			told := saySteps(l) + fmt.Sprint(lost, ok, covered)
			if ok {
				told += sayStep(s)
				l = append(l, s)
				cleaned++
			}
			if covered {
				subsumed++
			}
			return l, told
		}
		l, told := ask()
		steps += len(l)
		if spoil(l) {
			t.Fatalf("lists of one answer share memory: %s", told)
		}
		if all() != before {
			t.Fatalf("what was handed in is changed by %s", told)
		}
		if _, again := ask(); again != told {
			t.Fatalf("asked again: %s, not %s", again, told)
		}
	}
	if steps < 1500 || cleaned < 500 || subsumed < 20 {
		t.Errorf("too few: %d, %d, %d", steps, cleaned, subsumed)
	}
}

// Rule 5: calls side by side do not disturb each other.
func TestSideBySide(t *testing.T) {
	o := multi.Order{G: kbo.Sign{Names: []string{"a", "b", "c"}}}
	units := append(unitsOf(t, "f(X0)=X0; b=a"), crowd()...)
	c := append(of(bulk()), read(t, "@p(f(b)) | @p(X0) | a=f(f(b))")...)
	d := slices.Concat(c, c)
	l, _ := Rewrite(o, units, c)
	want := saySteps(l)
	var all sync.WaitGroup
	for range 8 {
		all.Go(func() {
			for range 20 {
				l, lost := Rewrite(o, units, c)
				s, ok := Clean(d)
				if saySteps(l) != want || lost || !ok || len(s.C) != len(c) || !Subsumes(c, d) {
					t.Error("side by side something else")
				}
			}
		})
	}
	all.Wait()
}
