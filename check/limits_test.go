package check

import (
	"testing"

	"assize/api"
	"assize/lits"
)

// P1901: what says something just at a limit, and nothing one beyond it: clauses that come, and instances that are gone from them.
func TestStepLimits(t *testing.T) {
	a, b := fn("a"), fn("b")
	var numbers []api.Bind
	for number := range api.MaxNodes + 1 {
		numbers = append(numbers, api.Bind{Var: number, T: a})
	}
	with := func(c api.Clause, l ...api.Lit) api.Clause { return append(c[:len(c):len(c)], l...) }
	sup, demod := api.Step{Rule: api.RSup, B: 1, Pos: []int{0}}, api.Step{Rule: api.RDemod, B: 1, Pos: []int{0}}
	deep := func(s api.Step, depth int) api.Step { s.Pos = make([]int, depth-1); return s }
	bound := func(s api.Step, sa, sb []api.Bind) api.Step { s.SA, s.SB = sa, sb; return s }
	to := func(t api.Term) []api.Bind { return []api.Bind{{Var: 0, T: t}} }
	res, fact := api.Step{Rule: api.REqRes}, api.Step{Rule: api.REqFact, LitB: 1}
	for _, c := range []struct {
		what     string
		one, two api.Clause
		s        api.Step
		fits     bool
	}{
		{"as many literals as may be", with(of(yes(a, b)), many(29, yes(b, b))...), with(of(atom(fn("@p", a))), many(30, yes(b, b))...), sup, true},
		{"one more", with(of(yes(a, b)), many(30, yes(b, b))...), with(of(atom(fn("@p", a))), many(30, yes(b, b))...), sup, false},
		{"as great as may be", of(yes(a, flat(3998, b))), of(atom(fn("@p", a))), sup, true}, {"one more part, in a side that may be", of(yes(a, flat(3999, b))), of(atom(fn("@p", a))), sup, false},
		{"a side as great as may be", of(yes(a, flat(3998, b))), of(yes(fn("f", a), a)), sup, true}, {"in all too great", of(yes(a, b), yes(flat(1995, a), b)), of(atom(fn("@p", a)), yes(flat(2001, a), b)), sup, false},
		{"in all as great as may be", of(yes(a, b), yes(flat(1995, a), b)), of(atom(fn("@p", a)), yes(flat(2000, a), b)), sup, true},
		{"as deep as may be", of(yes(a, chain(3, b))), of(atom(fn("@p", chain(57, a)))), deep(sup, 58), true}, {"one deeper", of(yes(a, chain(4, b))), of(atom(fn("@p", chain(57, a)))), deep(sup, 58), false},
		{"demod: as great", of(atom(fn("@p", a))), of(yes(a, flat(3998, b))), demod, true}, {"demod: one more", of(atom(fn("@p", a))), of(yes(a, flat(3999, b))), demod, false},
		{"demod: as deep", of(atom(fn("@p", chain(57, a)))), of(yes(a, chain(3, b))), deep(demod, 58), true}, {"demod: one deeper", of(atom(fn("@p", chain(57, a)))), of(yes(a, chain(4, b))), deep(demod, 58), false},
		{"an instance that is gone, as great", of(not(v(0), v(0))), nil, bound(res, to(flat(2000, b)), nil), true}, {"one more", of(not(v(0), v(0))), nil, bound(res, to(flat(2001, b)), nil), false},
		{"one that is gone, as deep", of(not(fn("f", v(0)), fn("f", v(0)))), nil, bound(res, to(chain(59, b)), nil), true}, {"one deeper", of(not(fn("f", v(0)), fn("f", v(0)))), nil, bound(res, to(chain(60, b)), nil), false},
		{"from's, as great", of(yes(v(0), b)), of(atom(fn("@p", v(0)))), bound(sup, to(flat(3998, a)), to(flat(3998, a))), true}, {"from's, as great, of two", of(yes(v(0), b), yes(v(0), b)), of(atom(fn("@p", v(0)))), bound(sup, to(flat(1999, a)), to(flat(1999, a))), true},
		{"from's too great", of(yes(v(0), b), yes(v(0), b)), of(atom(fn("@p", v(0)))), bound(sup, to(flat(2000, a)), to(flat(2000, a))), false},
		{"into's too great", of(yes(flat(3990, a), b)), of(atom(fn("@p", v(0), v(1)))), bound(sup, nil, append(to(flat(3990, a)), api.Bind{Var: 1, T: flat(9, a)})), false},
		{"into's as great", of(yes(flat(3990, a), b)), of(atom(fn("@p", v(0), v(1)))), bound(sup, nil, append(to(flat(3990, a)), api.Bind{Var: 1, T: flat(8, a)})), true},
		{"a bind as great as may be", of(not(a, a)), nil, bound(res, to(flat(4000, a)), nil), true}, {"one that is too great", of(not(a, a)), nil, bound(res, to(flat(4001, a)), nil), false}, {"one that is too deep", of(not(a, a)), nil, bound(res, to(chain(61, a)), nil), false},
		{"as many binds as may be", of(not(a, a)), nil, bound(res, numbers[1:], nil), true}, {"one more bind", of(not(a, a)), nil, bound(res, numbers, nil), false}, {"one more, in the other one's", of(not(a, a)), nil, bound(res, nil, numbers), true},
		{"factor: as great", of(yes(a, b), yes(a, flat(1999, b))), nil, fact, true}, {"factor: too great", of(yes(a, b), yes(a, flat(2000, b))), nil, fact, false},
		{"clean: as many literals", many(60, yes(a, a)), nil, api.Step{Rule: api.RClean}, true}, {"clean: one more, of which one stays", many(61, yes(a, a)), nil, api.Step{Rule: api.RClean}, false},
		{"clean: as great", many(4, yes(flat(999, a), b)), nil, api.Step{Rule: api.RClean}, true}, {"clean: too great, but for what is gone", many(4, yes(flat(1000, a), b)), nil, api.Step{Rule: api.RClean}, false},
	} {
		proof := append(told(c.one, c.two), c.s)
		if fits := wantModel(t, nil, proof); fits != c.fits {
			t.Errorf("%s: %v", c.what, fits)
		}
	}
}

// P1902: a proof of as many steps as may be, and of one more, whatever its steps are.
func TestProofLimit(t *testing.T) {
	given := []Given{{"a", []api.Clause{read("@p(X0)"), nil}}}
	full := many(api.MaxSteps, api.Step{Rule: api.RInput, Name: "a", C: read("@p(X0)")})
	last := len(full) - 1
	full[last] = api.Step{Rule: api.RInput, Name: "a", Index: 1}
	wantProof(t, "as many as may be", given, full, 0, api.OK)
	wantProof(t, "as many, the last one wrong", given, append(full[:last:last], api.Step{}), last, api.ErrProof)
	wantProof(t, "as many, the last one not empty", given, append(full[:last:last], full[0]), api.MaxSteps, api.ErrProof)
	wantProof(t, "one more", given, append(full[:len(full):len(full)], full[last]), 0, api.ErrBig)
	wantProof(t, "one more, all wrong", given, make([]api.Step, api.MaxSteps+1), 0, api.ErrBig)
	wantProof(t, "as many, all wrong", given, make([]api.Step, api.MaxSteps), 0, api.ErrProof)
	wantProof(t, "far more", nil, make([]api.Step, 10*api.MaxSteps), 0, api.ErrBig)
	if c, errno := Step(given, append(full[:len(full):len(full)], full[0]), len(full)); say(c) != "@p(X0)" || errno != api.OK {
		t.Errorf("Step of one more: %s, %d", say(c), errno)
	}
	if at, errno := Verify(nil, formula("p"), make([]api.Step, api.MaxSteps+1)); at != 0 || errno != api.ErrBig {
		t.Errorf("Verify of one more: %d, %d", at, errno)
	}
}

// P1902: long proofs of great clauses, and of many names, are looked at soon enough.
func TestProofLong(t *testing.T) {
	great := lits.Normal(of(yes(flat(1900, v(3)), fn("a")), yes(flat(1900, v(7)), fn("b"))))
	given := []Given{{"great", []api.Clause{great, nil}}}
	proof := []api.Step{{Rule: api.RInput, Name: "great", C: great}}
	for i := range 1000 {
		proof = append(proof, api.Step{Rule: api.RClean, A: i, C: great})
	}
	wantProof(t, "great clauses", given, append(proof, api.Step{Rule: api.RInput, Name: "great", Index: 1}), 0, api.OK)
	proof = nil
	for i := range api.MaxSteps - 1 {
		name := string([]byte{'n', byte(i >> 8), byte(i)})
		given = append(given, Given{name, []api.Clause{read("@p")}})
		proof = append(proof, api.Step{Rule: api.RInput, Name: name, C: read("@p")})
	}
	wantProof(t, "many names", given, append(proof, api.Step{Rule: api.RInput, Name: "great", Index: 1}), 0, api.OK)
}
