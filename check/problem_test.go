package check

import (
	"fmt"
	"strings"
	"testing"

	"assize/api"
	"assize/cnf"
	"assize/syntax"
)

func sayFormula(f api.Formula) string { return syntax.Show(f) }

// P1903: each axiom's clauses, with its number as tag, under its name, in order; those of what denies the goal behind them.
func TestProblem(t *testing.T) {
	for _, c := range []struct {
		l          []Named
		goal, want string
	}{
		{axioms("a: p"), "p", "a: @p / $goal: ~@p"}, {nil, "p", "$goal: ~@p"}, {nil, "$false", "$goal: "}, {nil, "$true", "$goal: 0"}, {axioms("t: $true", "f: $false"), "$false", "t:  / f: 0 / $goal: "},
		{axioms("one: ? [X] : p(X)", "two: ? [X] : p(X)"), "! [X] : p(X)", "one: @p($s0_0) / two: @p($s0_1) / $goal: ~@p($s0_2)"}, {nil, "! [X] : p(X)", "$goal: ~@p($s0_0)"},
		{axioms("z: ! [X] : ? [Y] : r(X,Y)", "a: (q & f(a) != b)"), "? [X] : (p(X) & a = X)", "z: @r(X0,$s1_0(X0)) / a: @q; f(a)!=b / $goal: ~@p(X0) | a!=X0"},
		{[]Named{{"", formula("q")}, {"goal", formula("q")}, {"$goa", formula("s")}, {"$goal ", formula("s")}, {"$Goal", formula("q")}}, "q", ": @q / goal: @q / $goa: @s / $goal : @s / $Goal: @q / $goal: ~@q"},
	} {
		got, errno := Problem(c.l, formula(c.goal))
		if errno != api.OK || sayGiven(got) != c.want {
			t.Errorf("%s, %s: %s, %d, not %s", sayNamed(c.l), c.goal, sayGiven(got), errno, c.want)
		}
	}
	defined := "((p & q & s & p(a) & p(b)) | (r & q(a) & q(b) & s(a) & s(b)))"
	got, errno := Problem(axioms("one: "+defined, "two: "+defined), formula("~ "+defined))
	if text := sayGiven(got); errno != api.OK || !strings.Contains(text, "one: @p | @$d0_0;") || !strings.Contains(text, "two: @p | @$d0_1;") || !strings.Contains(text, "$goal: @p | @$d0_2;") {
		t.Errorf("definitions: %s", text)
	}
}

// P1903: the clauses are those of layer 15, of many formulas by chance.
func TestProblemChance(t *testing.T) {
	m := newMaker(197)
	for range 500 {
		l, goal := m.problem()
		got, errno := Problem(l, goal)
		var want []string
		for tag, n := range append(l[:len(l):len(l)], Named{"$goal", api.Formula{Kind: api.FNot, Kids: []api.Formula{goal}}}) {
			clauses, _ := cnf.Clauses(n.F, tag)
			want = append(want, n.Name+": "+sayAll(clauses))
		}
		if errno != api.OK || sayGiven(got) != strings.Join(want, " / ") {
			t.Fatalf("%s, %s: %s, %d", sayNamed(l), sayFormula(goal), sayGiven(got), errno)
		}
	}
}

// P1903: ErrArg: names that can't be, ahead of all errors of formulas, which come in order, the goal's last.
func TestProblemErrors(t *testing.T) {
	p := formula("p")
	long := strings.Repeat("n", api.MaxName)
	odd, free := api.Formula{Kind: 11}, api.Formula{Kind: api.FAtom, L: fn("@p", fn("X")), R: fn("$true")}
	var deep, great api.Formula = p, p
	for range api.MaxDepth - 3 {
		deep = api.Formula{Kind: api.FNot, Kids: []api.Formula{deep}}
	}
	deeper := api.Formula{Kind: api.FNot, Kids: []api.Formula{deep}}
	great = api.Formula{Kind: api.FAtom, L: fn("@p", flat(api.MaxNodes-4, fn("a"))), R: fn("$true")}
	greater := api.Formula{Kind: api.FNot, Kids: []api.Formula{great}}
	wide := formula(strings.Repeat("(p & ", 9) + "q" + strings.Repeat(")", 9))
	for range 6 {
		wide = api.Formula{Kind: api.FAnd, Kids: []api.Formula{wide, wide}}
	}
	named := func(f api.Formula) []Named { return []Named{{"a", p}, {"b", f}, {"c", p}} }
	for _, c := range []struct {
		what string
		l    []Named
		goal api.Formula
		want api.Errno
	}{
		{"twice", []Named{{"a", p}, {"a", p}}, p, api.ErrArg}, {"twice, far off", []Named{{"a", p}, {"b", p}, {"c", p}, {"a", p}}, p, api.ErrArg}, {"twice no name", []Named{{"", p}, {"", p}}, p, api.ErrArg}, {"once no name", []Named{{"", p}}, p, api.OK},
		{"the goal's name", []Named{{"a", p}, {"$goal", p}}, p, api.ErrArg}, {"the goal's name at first", []Named{{"$goal", p}}, p, api.ErrArg}, {"a long name", []Named{{long, p}}, p, api.OK}, {"one longer", []Named{{long + "n", p}}, p, api.ErrArg}, {"long names, not alike", []Named{{long, p}, {long[1:], p}}, p, api.OK},
		{"one longer, behind", append(named(p), Named{long + "n", p}), p, api.ErrArg}, {"bytes, not letters", []Named{{strings.Repeat("é", 33), p}}, p, api.ErrArg}, {"twice, and wrong formulas", []Named{{"a", deeper}, {"a", free}}, odd, api.ErrArg}, {"the goal's, and a wrong formula", []Named{{"a", free}, {"$goal", p}}, p, api.ErrArg},
		{"no formula", named(odd), p, api.ErrArg}, {"free", named(free), p, api.ErrFree}, {"as deep as may be", named(deeper), p, api.OK}, {"too deep", named(api.Formula{Kind: api.FNot, Kids: []api.Formula{deeper}}), p, api.ErrDeep}, {"as great as may be", named(greater), p, api.OK}, {"too great", named(api.Formula{Kind: api.FNot, Kids: []api.Formula{greater}}), p, api.ErrBig},
		{"too many clauses", named(wide), p, api.ErrBig}, {"the goal: none", nil, odd, api.ErrArg}, {"the goal: zero", nil, api.Formula{}, api.ErrArg}, {"the goal: free", nil, free, api.ErrFree}, {"the goal: as deep", nil, deep, api.OK}, {"the goal: too deep, denied", nil, deeper, api.ErrDeep}, {"the goal: as great", nil, great, api.OK}, {"the goal: too great, denied", nil, greater, api.ErrBig},
		{"the goal: many clauses, but few denied", nil, formula("(p & q)"), api.OK}, {"in order", []Named{{"a", free}, {"b", odd}}, p, api.ErrFree}, {"in order, the other way round", []Named{{"a", odd}, {"b", free}}, p, api.ErrArg}, {"the goal last", named(free), odd, api.ErrFree}, {"the goal alone", named(p), free, api.ErrFree},
	} {
		got, errno := Problem(c.l, c.goal)
		if errno != c.want || (errno != api.OK) != (got == nil) || errno == api.OK && len(got) != len(c.l)+1 {
			t.Errorf("%s: %s, %d, not %d", c.what, sayGiven(got), errno, c.want)
		}
		at, errno := Verify(c.l, c.goal, nil)
		if want := map[bool]api.Errno{true: api.ErrProof, false: c.want}[c.want == api.OK]; at != 0 || errno != want {
			t.Errorf("Verify, %s: %d, %d, not %d", c.what, at, errno, want)
		}
	}
}

// P1903: a problem has many axioms; the tag goes on with their number.
func TestProblemMany(t *testing.T) {
	var l []Named
	for i := range 1000 {
		l = append(l, Named{fmt.Sprint("n", i), formula("? [X] : p(X)")})
	}
	got, errno := Problem(l, formula("! [X] : p(X)"))
	if errno != api.OK || len(got) != 1001 {
		t.Fatalf("%d, %d", len(got), errno)
	}
	for i, g := range got[:1000] {
		wantText(t, g.Name, g.Name+" "+sayAll(g.L), fmt.Sprintf("n%d @p($s0_%d)", i, i))
	}
	wantText(t, "the goal", sayAll(got[1000].L), "~@p($s0_1000)")
}

// P1903: Verify: Problem's error, then Proof's answers of the problem.
func TestVerify(t *testing.T) {
	l := axioms("all: ! [X] : (man(X) => mortal(X))", "s: man(s)")
	proof := []api.Step{
		{Rule: api.RInput, Name: "all", C: read("~@man(X0) | @mortal(X0)")}, {Rule: api.RInput, Name: "s", C: read("@man(s)")}, {Rule: api.RInput, Name: "$goal", C: read("~@mortal(s)")},
		{Rule: api.RSup, A: 1, B: 0, SB: by("0:s"), C: read("$true!=$true | @mortal(s)")}, {Rule: api.REqRes, A: 3, C: read("@mortal(s)")},
		{Rule: api.RSup, A: 4, B: 2, C: of(not(fn("$true"), fn("$true")))}, {Rule: api.RClean, A: 5},
	}
	for _, c := range []struct {
		what  string
		l     []Named
		goal  string
		proof []api.Step
		at    int
		want  api.Errno
	}{
		{"ordinary", l, "mortal(s)", proof, 0, api.OK}, {"another goal", l, "mortal(t)", proof, 2, api.ErrProof}, {"the goal itself, not denied", l, "~ mortal(s)", proof, 2, api.ErrProof}, {"an axiom is not there", l[:1], "mortal(s)", proof, 1, api.ErrProof}, {"another order", []Named{l[1], l[0]}, "mortal(s)", proof, 0, api.OK},
		{"no axioms", nil, "mortal(s)", proof, 0, api.ErrProof}, {"too short", l, "mortal(s)", proof[:6], 6, api.ErrProof}, {"no step", l, "mortal(s)", nil, 0, api.ErrProof}, {"names that can't be", append(l[:2:2], l[1]), "mortal(s)", proof, 0, api.ErrArg}, {"names that can't be, and no proof", append(l[:2:2], l[1]), "mortal(s)", make([]api.Step, api.MaxSteps+1), 0, api.ErrArg},
		{"more axioms", append(l[:2:2], Named{"more", formula("q")}), "mortal(s)", proof, 0, api.OK}, {"a goal that says the same", l, "? [X] : (mortal(X) & X = s)", proof, 2, api.ErrProof},
	} {
		if at, errno := Verify(c.l, formula(c.goal), c.proof); at != c.at || errno != c.want {
			t.Errorf("%s: %d, %d, not %d, %d", c.what, at, errno, c.at, c.want)
		}
	}
}
