package check

import (
	"fmt"
	"math"
	"testing"

	"assize/api"
)

// ruleCase: what a step with such parents says; none, if nothing.
type ruleCase struct {
	what, parents string
	s             api.Step
	want          string
}

func wantRules(t *testing.T, cases []ruleCase) {
	t.Helper()
	for _, c := range cases {
		proof := append(told(readAll(c.parents)...), c.s)
		wantText(t, c.what+", "+sayStep(c.s)+", of "+c.parents, answer(t, nil, proof), c.want)
		proof[len(proof)-1].C = read("@x") // what it tells itself does not count
		wantText(t, c.what+", that tells something, of "+c.parents, answer(t, nil, proof), c.want)
	}
}

// P1901: an input is the clause of that number of the first given one of that name, with normal names.
func TestInput(t *testing.T) {
	given := []Given{{"a", readAll("@p(X3) | X5=X3; 0")}, {"b", nil}, {"a", readAll("@q; @q; @q")}, {"", readAll("c=d")}, {"b", readAll("@r")}, {"$goal", readAll("~@p(X0); b!=a | ~@q")}}
	for _, c := range []struct {
		name  string
		index int
		want  string
	}{
		{"a", 0, "@p(X0) | X1=X0"}, {"a", 1, "0"}, {"a", 2, "none"}, {"a", -1, "none"}, {"a", math.MaxInt, "none"}, {"a", math.MinInt, "none"},
		{"b", 0, "none"}, {"", 0, "c=d"}, {"", 1, "none"}, {"$goal", 1, "b!=a | ~@q"}, {"$goal", 2, "none"}, {"A", 0, "none"}, {"c", 0, "none"}, {"a ", 0, "none"}, {"goal", 0, "none"},
	} {
		s := api.Step{Rule: api.RInput, Name: c.name, Index: c.index}
		for _, proof := range [][]api.Step{{s}, append(told(read("@z"), nil), s)} {
			wantText(t, fmt.Sprintf("input %q %d", c.name, c.index), answer(t, given, proof), c.want)
			s.A, s.B, s.LitA, s.LitB, s.FlipA, s.Pos, s.SA, s.SB = -7, 99, 5, -5, true, []int{9}, by("0:a"), by("3:b", "1:a") // what the rule does not speak of
			wantText(t, fmt.Sprintf("input %q %d with more", c.name, c.index), answer(t, given, append(told(nil), s)), c.want)
		}
		wantText(t, "of nothing given", answer(t, nil, []api.Step{s}), "none")
	}
}

// P1901: a given clause that is not right, or not sorted, says nothing; one beside it does.
func TestInputWrong(t *testing.T) {
	for _, c := range wrongClauses() {
		given := []Given{{"a", []api.Clause{read("@p"), c}}, {"b", []api.Clause{c, read("@q")}}}
		wantText(t, "a wrong one", answer(t, given, []api.Step{{Rule: api.RInput, Name: "a", Index: 1}}), "none")
		wantText(t, "a wrong one, at first", answer(t, given, []api.Step{{Rule: api.RInput, Name: "b"}}), "none")
		wantText(t, "one ahead of it", answer(t, given, []api.Step{{Rule: api.RInput, Name: "a"}}), "@p")
		wantText(t, "one behind it", answer(t, given, []api.Step{{Rule: api.RInput, Name: "b", Index: 1}}), "@q")
	}
	for _, c := range oddClauses() {
		got, errno := Step([]Given{{"a", []api.Clause{c}}}, []api.Step{{Rule: api.RInput, Name: "a"}}, 0)
		if len(got) != len(c) || errno != api.OK {
			t.Errorf("%.80s: %.80s, %d", say(c), say(got), errno)
		}
	}
}

// P1901: parents are steps ahead of the step, and what they tell must be right and sorted, wherever the rule looks at it.
func TestParents(t *testing.T) {
	ways := []api.Step{
		{Rule: api.RSup, A: 0, B: 1, Pos: []int{0}}, {Rule: api.RSup, A: 0, B: 0}, {Rule: api.RDemod, A: 1, B: 0, Pos: []int{0}}, {Rule: api.RDemod, A: 0, B: 0},
		{Rule: api.REqRes, A: 2}, {Rule: api.REqFact, A: 3, LitB: 1}, {Rule: api.RClean, A: 1},
	}
	parents := func() []api.Step { return told(readAll("a=b; @p(a); a!=a; a=b | a=c")...) }
	wants := []string{"@p(b)", "b=b", "@p(b)", "b=b", "0", "a=c | b!=c", "@p(a)"}
	for i, s := range ways {
		wantText(t, sayStep(s), answer(t, nil, append(parents(), s)), wants[i])
		two := s.Rule == api.RSup || s.Rule == api.RDemod
		for _, number := range []int{-1, 4, 5, 6, math.MinInt, math.MaxInt} {
			one, other := s, s
			one.A, other.B = number, number
			for _, proof := range [][]api.Step{append(parents(), one), append(append(parents(), one), parents()...)} {
				if _, errno := Step(nil, proof, 4); errno != api.ErrProof {
					t.Errorf("%s as the step 4: %d", sayStep(one), errno)
				}
			}
			want := wants[i]
			if two {
				want = "none"
			}
			wantText(t, sayStep(other), answer(t, nil, append(parents(), other)), want)
		}
		for _, c := range wrongClauses() {
			for number := range 4 {
				proof := append(parents(), s)
				proof[number].C = c
				want := wants[i]
				if number == s.A || two && number == s.B {
					want = "none"
				}
				wantText(t, fmt.Sprintf("%s, the step %d wrong", sayStep(s), number), answer(t, nil, proof), want)
			}
		}
	}
}

// P1901: RSup: the part of the second one's side becomes the other side of the first one's equation; behind it what else the first one has.
func TestSup(t *testing.T) {
	sup := func(s api.Step) api.Step { s.Rule, s.B = api.RSup, 1; return s }
	wantRules(t, []ruleCase{
		{"the chapter's example", "@p; ~@p", sup(api.Step{}), "$true!=$true"},
		{"below", "a=b; @p(f(a))", sup(api.Step{Pos: []int{0, 0}}), "@p(f(b))"},
		{"at no place of it", "a=b; @p(f(a))", sup(api.Step{Pos: []int{0}}), "none"}, {"at none", "a=b; @p(f(a))", sup(api.Step{}), "none"}, {"too far down", "a=b; @p(f(a))", sup(api.Step{Pos: []int{0, 0, 0}}), "none"},
		{"a number that can't be", "a=b; @p(f(a))", sup(api.Step{Pos: []int{0, -1}}), "none"}, {"another argument", "a=b; @p(c,a,c)", sup(api.Step{Pos: []int{1}}), "@p(c,b,c)"}, {"far off", "a=b; @p(f(a))", sup(api.Step{Pos: []int{math.MaxInt}}), "none"},
		{"one of two", "a=b; @p(a,a)", sup(api.Step{Pos: []int{1}}), "@p(a,b)"}, {"from the right", "b=a; @p(a)", sup(api.Step{FlipA: true, Pos: []int{0}}), "@p(b)"}, {"the other side does not fit", "b=a; @p(a)", sup(api.Step{Pos: []int{0}}), "none"},
		{"into the right", "a=b; c=f(a)", sup(api.Step{FlipB: true, Pos: []int{0}}), "c=f(b)"}, {"into a whole side", "a=b; c!=a", sup(api.Step{FlipB: true}), "c!=b"}, {"whatever the order", "a=f(a); @p(a)", sup(api.Step{Pos: []int{0}}), "@p(f(a))"},
		{"other literals", "@r | a=b | @s; c=d | @p(a) | d=c", sup(api.Step{LitA: 1, LitB: 1, Pos: []int{0}}), "c=d | @p(b) | d=c | @r | @s"},
		{"no such literal", "a=b; @p(a)", sup(api.Step{LitA: 1, Pos: []int{0}}), "none"}, {"below 0", "a=b; @p(a)", sup(api.Step{LitA: -1, Pos: []int{0}}), "none"}, {"no such literal of into", "a=b; @p(a)", sup(api.Step{LitB: 1, Pos: []int{0}}), "none"},
		{"below 0 of into", "a=b; @p(a)", sup(api.Step{LitB: -1, Pos: []int{0}}), "none"}, {"far off", "a=b; @p(a)", sup(api.Step{LitA: math.MaxInt, Pos: []int{0}}), "none"}, {"far off below", "a=b; @p(a)", sup(api.Step{LitB: math.MinInt, Pos: []int{0}}), "none"},
		{"of the empty clause", "0; @p(a)", sup(api.Step{Pos: []int{0}}), "none"}, {"into the empty clause", "a=b; 0", sup(api.Step{}), "none"},
		{"Neg", "a!=b; @p(a)", sup(api.Step{Pos: []int{0}}), "none"}, {"into one that is Neg", "a=b; ~@p(a)", sup(api.Step{Pos: []int{0}}), "~@p(b)"}, {"nothing alike", "a=b; @p(c)", sup(api.Step{Pos: []int{0}}), "none"},
		{"of $true", "@p; @q", sup(api.Step{FlipA: true, FlipB: true}), "@q=@p"}, {"both ways", "@p; @q=@p", sup(api.Step{FlipB: true}), "@q"}, {"a thing in the place of a truth", "a=b; @p", sup(api.Step{}), "none"},
		{"a literal that says nothing", "a=a; @p(a)", sup(api.Step{Pos: []int{0}}), "@p(a)"}, {"of both the same", "a=b | b=a; a=b | b=a", sup(api.Step{LitB: 1, FlipB: true}), "a=b | b=b | b=a"},
	})
}

// P1901: RSup: instances, whose variables are not set apart; and parts that are variables.
func TestSupInstances(t *testing.T) {
	sup := func(s api.Step) api.Step { s.Rule, s.B = api.RSup, 1; return s }
	wantRules(t, []ruleCase{
		{"both are instances", "f(X0)=X0 | @r(X0); @p(f(X1),X1)", sup(api.Step{Pos: []int{0}, SA: by("0:a"), SB: by("1:a")}), "@p(a,a) | @r(a)"},
		{"no instance", "f(X0)=X0; @p(f(a))", sup(api.Step{Pos: []int{0}}), "none"}, {"another instance", "f(X0)=X0; @p(f(a))", sup(api.Step{Pos: []int{0}, SA: by("0:b")}), "none"},
		{"one variable in both", "f(X0)=X0; @p(f(X0),X1)", sup(api.Step{Pos: []int{0}}), "@p(X0,X1)"}, {"another one", "f(X0)=X0; @p(f(X1),X0)", sup(api.Step{Pos: []int{0}}), "none"}, {"named alike", "f(X0)=X0; @p(f(X1),X0)", sup(api.Step{Pos: []int{0}, SA: by("0:X1")}), "@p(X0,X1)"},
		{"a variable rewritten", "X0=a; @p(X0)", sup(api.Step{Pos: []int{0}}), "@p(a)"}, {"a variable for a part", "a=X0; @p(a)", sup(api.Step{Pos: []int{0}}), "@p(X0)"}, {"by an instance", "X0=a; @p(b)", sup(api.Step{Pos: []int{0}, SA: by("0:b")}), "@p(a)"},
		{"into an instance's own part", "a=b; @p(X0)", sup(api.Step{Pos: []int{0, 0}, SB: by("0:f(a)")}), "@p(f(b))"}, {"that is not there without", "a=b; @p(X0)", sup(api.Step{Pos: []int{0, 0}}), "none"},
		{"all at once", "f(X0,X1)=X1; @p(f(X1,a))", sup(api.Step{Pos: []int{0}, SA: by("0:X1", "1:a")}), "@p(a)"}, {"binds of no variable", "a=b; @p(a)", sup(api.Step{Pos: []int{0}, SA: by("5:a"), SB: by("9:f(X9)")}), "@p(b)"},
		{"names anew", "a=X7 | @r(X4); @p(a,X9,X4)", sup(api.Step{Pos: []int{0}}), "@p(X0,X1,X2) | @r(X2)"},
		{"no substitution: the variable itself", "a=b; @p(a)", sup(api.Step{Pos: []int{0}, SA: by("0:X0")}), "none"}, {"falling", "a=b; @p(a)", sup(api.Step{Pos: []int{0}, SB: by("1:a", "0:a")}), "none"}, {"twice", "a=b; @p(a)", sup(api.Step{Pos: []int{0}, SB: by("1:a", "1:a")}), "none"},
		{"below 0", "a=b; @p(a)", sup(api.Step{Pos: []int{0}, SA: by("-1:a")}), "none"}, {"too great a number", "a=b; @p(a)", sup(api.Step{Pos: []int{0}, SB: by("1000000:a")}), "none"}, {"the greatest", "a=b; @p(a)", sup(api.Step{Pos: []int{0}, SB: by("999999:a")}), "@p(b)"},
	})
}

// P1901: RDemod: the first one is rewritten by the second one, which is one equation.
func TestDemod(t *testing.T) {
	demod := func(s api.Step) api.Step { s.Rule, s.B = api.RDemod, 1; return s }
	wantRules(t, []ruleCase{
		{"ordinary", "@p(f(a)); f(X0)=X0", demod(api.Step{Pos: []int{0}, SB: by("0:a")}), "@p(a)"}, {"no match", "@p(f(a)); f(X0)=X0", demod(api.Step{Pos: []int{0}}), "none"}, {"against the order", "@p(a); f(X0)=X0", demod(api.Step{Pos: []int{0}, FlipB: true, SB: by("0:a")}), "@p(f(a))"},
		{"other literals stay", "@r(X4) | c=f(a) | X4=X1; a=b", demod(api.Step{LitA: 1, FlipA: true, Pos: []int{0}}), "@r(X0) | c=f(b) | X0=X1"}, {"its side is the left", "@r | c=f(a); a=b", demod(api.Step{LitA: 1, Pos: []int{0}}), "none"},
		{"both are instances", "@p(X0,f(X0)); f(b)=c", demod(api.Step{Pos: []int{1}, SA: by("0:b")}), "@p(b,c)"}, {"a variable", "@p(X0); X0=a", demod(api.Step{Pos: []int{0}}), "@p(a)"}, {"a variable that comes in", "@p(X3,a); a=X0", demod(api.Step{Pos: []int{1}}), "@p(X0,X1)"},
		{"two literals", "@p(a); a=b | @q", demod(api.Step{Pos: []int{0}}), "none"}, {"twice the same", "@p(a); a=b | a=b", demod(api.Step{Pos: []int{0}}), "none"}, {"no literal", "@p(a); 0", demod(api.Step{Pos: []int{0}}), "none"}, {"Neg", "@p(a); a!=b", demod(api.Step{Pos: []int{0}}), "none"},
		{"Neg, at a side that is not there", "@p(a); a!=b", demod(api.Step{Pos: []int{1}}), "none"}, {"rewrites one that is Neg", "~@p(a); a=b", demod(api.Step{Pos: []int{0}}), "~@p(b)"}, {"truths", "~@p; @p", demod(api.Step{}), "$true!=$true"}, {"truths, from the right", "@q=@p; @q=@p", demod(api.Step{FlipA: true, FlipB: true}), "@q=@q"},
		{"no such literal", "@p(a); a=b", demod(api.Step{LitA: 1, Pos: []int{0}}), "none"}, {"below 0", "@p(a); a=b", demod(api.Step{LitA: -1, Pos: []int{0}}), "none"}, {"of the empty one", "0; a=b", demod(api.Step{}), "none"}, {"no such place", "@p(a); a=b", demod(api.Step{Pos: []int{0, 0}}), "none"},
		{"a number that the rule does not speak of", "@p(a); a=b", demod(api.Step{LitB: 7, Pos: []int{0}}), "@p(b)"}, {"by itself", "a=b; a=b", demod(api.Step{}), "b=b"},
		{"no substitution", "@p(a); a=b", demod(api.Step{Pos: []int{0}, SA: by("0:X0")}), "none"}, {"none of the unit", "@p(a); a=b", demod(api.Step{Pos: []int{0}, SB: by("3:a", "2:a")}), "none"},
		{"the second one is rewritten", "a=b; @p(a)", demod(api.Step{Pos: []int{0}}), "none"},
	})
}

// P1901: REqRes: a literal that is Neg, whose sides are the same, is gone.
func TestEqRes(t *testing.T) {
	res := func(s api.Step) api.Step { s.Rule = api.REqRes; return s }
	wantRules(t, []ruleCase{
		{"alone", "a!=a", res(api.Step{}), "0"}, {"not the same", "a!=b", res(api.Step{}), "none"}, {"not Neg", "a=a", res(api.Step{}), "none"}, {"$true", "$true!=$true", res(api.Step{}), "0"}, {"an atom", "~@p", res(api.Step{}), "none"}, {"truths", "@p(X0)!=@p(X0)", res(api.Step{}), "0"},
		{"made the same", "X0!=f(X1) | @p(X0,X1)", res(api.Step{SA: by("0:f(X1)")}), "@p(f(X0),X0)"}, {"not made the same", "X0!=f(X1) | @p(X0,X1)", res(api.Step{SA: by("0:f(a)")}), "none"}, {"more than that", "X0!=X1 | @p(X0,X1)", res(api.Step{SA: by("0:a", "1:a")}), "@p(a,a)"},
		{"all at once", "X0!=X1", res(api.Step{SA: by("0:X1", "1:X0")}), "none"}, {"in the middle", "a!=b | c!=c | @p", res(api.Step{LitA: 1}), "a!=b | @p"}, {"the last", "@p | c!=c", res(api.Step{LitA: 1}), "@p"}, {"one of two", "c!=c | c!=c", res(api.Step{LitA: 1}), "c!=c"},
		{"no such literal", "a!=a", res(api.Step{LitA: 1}), "none"}, {"below 0", "a!=a", res(api.Step{LitA: -1}), "none"}, {"of the empty one", "0", res(api.Step{}), "none"}, {"far off", "a!=a", res(api.Step{LitA: math.MinInt}), "none"},
		{"what the rule does not speak of", "a!=a | @p(X3)", res(api.Step{B: -3, LitB: 9, FlipA: true, FlipB: true, Pos: []int{4}, SB: by("4:X4"), Name: "n", Index: -2}), "@p(X0)"}, {"no substitution", "a!=a", res(api.Step{SA: by("0:X0")}), "none"},
	})
}

// P1901: REqFact: of two equations that have a side in common the one is gone, and behind all stands that their other sides differ.
func TestEqFact(t *testing.T) {
	fact := func(s api.Step) api.Step { s.Rule = api.REqFact; return s }
	wantRules(t, []ruleCase{
		{"ordinary", "a=b | a=c", fact(api.Step{LitB: 1}), "a=c | b!=c"}, {"the other one is gone", "a=b | a=c", fact(api.Step{LitA: 1}), "a=b | c!=b"}, {"right and left", "b=a | a=c", fact(api.Step{FlipA: true, LitB: 1}), "a=c | b!=c"}, {"left and right", "a=b | c=a", fact(api.Step{LitB: 1, FlipB: true}), "c=a | b!=c"},
		{"both right", "b=a | c=a", fact(api.Step{FlipA: true, LitB: 1, FlipB: true}), "c=a | b!=c"}, {"not the same", "a=b | a=c", fact(api.Step{FlipA: true, LitB: 1}), "none"}, {"nor these", "a=b | a=c", fact(api.Step{LitB: 1, FlipB: true}), "none"},
		{"others between", "@r | a=b | X3!=a | a=c | @s(X3)", fact(api.Step{LitA: 1, LitB: 3}), "@r | X0!=a | a=c | @s(X0) | b!=c"}, {"atoms", "@p | @p", fact(api.Step{LitB: 1}), "@p | $true!=$true"}, {"by $true", "@p | @q", fact(api.Step{FlipA: true, LitB: 1, FlipB: true}), "@q | @p!=@q"},
		{"made the same", "f(X0)=b | f(a)=X0", fact(api.Step{LitB: 1, SA: by("0:a")}), "f(a)=a | b!=a"}, {"not made the same", "f(X0)=b | f(a)=X0", fact(api.Step{LitB: 1}), "none"},
		{"one literal", "a=b | a=c", fact(api.Step{}), "none"}, {"one literal, both sides", "a=a | a=c", fact(api.Step{FlipB: true}), "none"}, {"the second alone", "a=b | a=c", fact(api.Step{LitA: 1, LitB: 1}), "none"},
		{"the first is Neg", "a!=b | a=c", fact(api.Step{LitB: 1}), "none"}, {"the second is Neg", "a=b | a!=c", fact(api.Step{LitB: 1}), "none"}, {"both", "a!=b | a!=c", fact(api.Step{LitB: 1}), "none"},
		{"no such literal", "a=b | a=c", fact(api.Step{LitB: 2}), "none"}, {"none at first", "a=b | a=c", fact(api.Step{LitA: 2}), "none"}, {"below 0", "a=b | a=c", fact(api.Step{LitA: -1}), "none"}, {"the second below 0", "a=b | a=c", fact(api.Step{LitB: -1}), "none"}, {"of the empty one", "0", fact(api.Step{LitB: 1}), "none"},
		{"what the rule does not speak of", "a=b | a=c", fact(api.Step{LitB: 1, B: 99, Pos: []int{1}, SB: by("1:a", "0:a"), Name: "n", Index: 4}), "a=c | b!=c"}, {"no substitution", "a=b | a=c", fact(api.Step{LitB: 1, SA: by("0:X0")}), "none"},
	})
}

// P1901: RClean: what stands twice, or is Neg with the same sides, is gone; where nothing is, it is the same clause.
func TestCleaned(t *testing.T) {
	clean := api.Step{Rule: api.RClean}
	more := api.Step{Rule: api.RClean, B: 88, LitA: 9, LitB: -9, FlipA: true, FlipB: true, Pos: []int{3}, SA: by("0:b", "0:b"), SB: by("0:X0"), Name: "n", Index: 7}
	for _, s := range []api.Step{clean, more} {
		wantRules(t, []ruleCase{
			{"all ways", "X4=b | a!=a | b=X4 | X4=b | @p(X1)", s, "X0=b | @p(X1)"}, {"nothing", "a=b | a!=b | a=a", s, "a=b | a!=b | a=a"}, {"nothing but names", "X3=b", s, "X0=b"}, {"empty", "0", s, "0"}, {"empty behind it", "X0!=X0 | $true!=$true", s, "0"}, {"no instance", "X0=a | X1=a", s, "X0=a | X1=a"},
		})
	}
}

// P1901: rules that are none.
func TestNoRule(t *testing.T) {
	given := []Given{{"", readAll("@p")}}
	for _, rule := range []int{math.MinInt, -1, 0, 7, 8, 1 << 32, 1<<32 + 1, math.MaxInt} {
		wantText(t, fmt.Sprint("rule ", rule), answer(t, given, append(told(read("a!=a")), api.Step{Rule: rule})), "none")
	}
}

// P1901: ErrArg: a number that no step has.
func TestNoStep(t *testing.T) {
	for count := range 3 {
		proof := told(many(count, read("a=b"))...)
		for _, i := range []int{math.MinInt, -1, count, count + 1, math.MaxInt} {
			if c, errno := Step(nil, proof, i); c != nil || errno != api.ErrArg {
				t.Errorf("step %d of %d: %s, %d", i, count, say(c), errno)
			}
		}
		for i := range count {
			if c, errno := Step(nil, proof, i); c != nil || errno != api.ErrProof {
				t.Errorf("step %d of %d: %s, %d", i, count, say(c), errno)
			}
		}
	}
}

// P1901: a step in the middle looks at what is ahead of it alone, and whatever is wrong elsewhere does not count.
func TestStepAlone(t *testing.T) {
	proof := told(wrongClauses()...)
	at := len(proof)
	proof = append(proof, api.Step{Rule: 99, C: read("a!=a | @p(X7)")}, api.Step{Rule: api.REqRes, A: at}, api.Step{Rule: api.RSup, A: 77, C: read("a!=a")}, api.Step{Rule: 5, A: at + 4})
	if c, errno := Step(nil, proof, at+1); say(c) != "@p(X0)" || errno != api.OK {
		t.Errorf("%s, %d", say(c), errno)
	}
	proof[at+1].A = at + 2
	if c, errno := Step(nil, proof, at+1); c != nil || errno != api.ErrProof {
		t.Errorf("of one behind it: %s, %d", say(c), errno)
	}
}

// P1901: no variable stands for a truth, whether it is met or not, and whichever of both substitutions has it.
func TestNoTruths(t *testing.T) {
	parents := "a=b; @p(a); a!=a; a=b | a=c"
	given := []Given{{"in", readAll("@p")}}
	for _, s := range []api.Step{
		{Rule: api.RInput, Name: "in"}, {Rule: api.RSup, A: 0, B: 1, Pos: []int{0}}, {Rule: api.RDemod, A: 1, B: 0, Pos: []int{0}}, {Rule: api.REqRes, A: 2}, {Rule: api.REqFact, A: 3, LitB: 1}, {Rule: api.RClean, A: 1},
	} {
		for _, truth := range []string{"@p", "$true", "@p(a)", "@", "@q(X0,X1)", "$true(a)", "@$d0_0"} {
			one, two, behind := s, s, s
			one.SA, two.SB, behind.SA = by("7:"+truth), by("7:"+truth), by("1:a", "7:b", "8:"+truth)
			for _, s := range []api.Step{one, two, behind} {
				wantText(t, sayStep(s), answer(t, given, append(told(readAll(parents)...), s)), "none")
			}
		}
		for _, thing := range []string{"p", "$tru", "$truer", "$s0_0", "X3", "p@", "f(@p)"} { // the last one is a thing, with a truth within
			one, two := s, s
			one.SA, two.SB = by("7:"+thing), by("7:"+thing)
			want := answer(t, given, append(told(readAll(parents)...), s))
			for _, s := range []api.Step{one, two} {
				wantText(t, sayStep(s), answer(t, given, append(told(readAll(parents)...), s)), want)
			}
		}
	}
	wantRules(t, []ruleCase{
		{"a variable beside one", "X0=X1 | X0=X2", api.Step{Rule: api.REqFact, LitB: 1, SA: by("0:@p", "1:@q", "2:@r")}, "none"}, {"it would be gone", "X0!=X0", api.Step{Rule: api.REqRes, SA: by("0:@p")}, "none"},
		{"a truth within comes to stand", "@p(X0) | X1!=X1", api.Step{Rule: api.REqRes, LitA: 1, SA: by("0:f(@q)")}, "none"}, {"a truth within is gone", "@p(X0) | X1!=X1", api.Step{Rule: api.REqRes, LitA: 1, SA: by("1:f(@q)")}, "@p(X0)"},
	})
}
