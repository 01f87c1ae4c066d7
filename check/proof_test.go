package check

import (
	"testing"

	"assize/api"
)

// example: the chapter's.
func example() ([]Given, []api.Step) {
	return []Given{{"a", readAll("@p")}, {"b", readAll("~@p")}}, []api.Step{
		{Rule: api.RInput, Name: "a", C: read("@p")}, {Rule: api.RInput, Name: "b", C: read("~@p")},
		{Rule: api.RSup, A: 0, B: 1, C: of(not(fn("$true"), fn("$true")))}, {Rule: api.REqRes, A: 2},
	}
}

// P1902: the chapter's example; what is wrong is told by the first number.
func TestProof(t *testing.T) {
	given, proof := example()
	wantProof(t, "the example", given, proof, 0, api.OK)
	for count := range proof {
		wantProof(t, "its first steps", given, proof[:count], count, api.ErrProof)
	}
	wantProof(t, "no step", given, nil, 0, api.ErrProof)
	wantProof(t, "nothing given", nil, proof, 0, api.ErrProof)
	wantProof(t, "not all given", given[:1], proof, 1, api.ErrProof)
	wantProof(t, "given the other way round", []Given{given[1], given[0]}, proof, 0, api.OK)
	wantProof(t, "given twice", append(given[:2:2], Given{"a", nil}), proof, 0, api.OK)
	wantProof(t, "given twice, the first counts", append([]Given{{"b", nil}}, given...), proof, 1, api.ErrProof)
	for at := range proof {
		_, other := example()
		other[at].C = append(other[at].C, yes(fn("a"), fn("b")))
		wantProof(t, "a clause with more", given, other, at, api.ErrProof)
		_, other = example()
		other[at].Rule = 7
		wantProof(t, "no rule", given, other, at, api.ErrProof)
		other[0].Index = 1
		wantProof(t, "two are wrong", given, other, 0, api.ErrProof)
	}
	wantProof(t, "steps behind the empty clause", given, append(proof[:4:4], proof[0]), 5, api.ErrProof)
	wantProof(t, "wrong steps behind it", given, append(proof[:4:4], api.Step{}, proof[3]), 4, api.ErrProof)
	wantProof(t, "twice empty", given, append(proof[:4:4], proof[3]), 0, api.OK)
	wantProof(t, "empty, something else, empty", given, append(proof[:4:4], proof[1], proof[3]), 0, api.OK)
	wantProof(t, "the empty one is given", []Given{{"", []api.Clause{nil}}}, []api.Step{{Rule: api.RInput, C: api.Clause{}}}, 0, api.OK)
	wantProof(t, "steps that nothing needs", given, append([]api.Step{{Rule: api.RInput, Name: "b", C: read("~@p")}}, moved(proof, 1)...), 0, api.OK)
}

// moved: the steps, their parents' numbers greater by that.
func moved(proof []api.Step, by int) []api.Step {
	var list []api.Step
	for _, s := range proof {
		s.A, s.B = s.A+by, s.B+by
		list = append(list, s)
	}
	return list
}

// P1902: a step's clause must be just what it says: literals in order, sides as they stand, variables with normal names.
func TestProofEquals(t *testing.T) {
	given := []Given{{"a", append(readAll("f(X3)=X5 | X5!=c | @p(X3)"), nil)}}
	for _, c := range []struct {
		told string
		want int
	}{
		{"f(X0)=X1 | X1!=c | @p(X0)", 2}, {"f(X3)=X5 | X5!=c | @p(X3)", 0}, {"X1=f(X0) | X1!=c | @p(X0)", 0}, {"f(X1)=X0 | X0!=c | @p(X1)", 0}, {"f(X0)=X1 | @p(X0) | X1!=c", 0},
		{"f(X0)=X1 | X1!=c", 0}, {"f(X0)=X1 | X1!=c | @p(X0) | @p(X0)", 0}, {"f(X0)=X1 | X1=c | @p(X0)", 0}, {"f(X0)=X1 | X1!=c | ~@p(X0)", 0}, {"f(X0)=X1 | X1!=c | @p(X1)", 0}, {"f(X0)=X0 | X0!=c | @p(X0)", 0}, {"0", 0},
	} {
		wantProof(t, c.told, given, []api.Step{{Rule: api.RInput, Name: "a", Index: 1}, {Rule: api.RInput, Name: "a", C: read(c.told)}}, max(c.want, 1), api.ErrProof)
		wantProof(t, c.told, given, []api.Step{{Rule: api.RInput, Name: "a", C: read(c.told)}, {Rule: api.RInput, Name: "a", Index: 1}}, 0, map[int]api.Errno{2: api.OK, 0: api.ErrProof}[c.want])
	}
	for _, c := range wrongClauses() {
		wantProof(t, "a clause that can't be", []Given{{"a", []api.Clause{c}}}, []api.Step{{Rule: api.RInput, Name: "a", C: c}}, 0, api.ErrProof)
		wantProof(t, "one that is not said", given, []api.Step{{Rule: api.RInput, Name: "a", C: c}}, 0, api.ErrProof)
	}
}

// P1901, P1904: what would be a proof, if something were not looked at, of clauses that hold somewhere.
func TestForged(t *testing.T) {
	input := func(index int, c string) api.Step {
		return api.Step{Rule: api.RInput, Name: "in", Index: index, C: read(c)}
	}
	truth := of(not(fn("$true"), fn("$true")))
	for _, c := range []struct {
		what, given string
		proof       []api.Step
		want        int
	}{
		{"all things are one, so all truths", "X0=X1; @p; ~@q", []api.Step{input(0, "X0=X1"), input(1, "@p"), input(2, "~@q"), {Rule: api.RSup, A: 0, B: 2, SA: by("0:@q", "1:$true"), C: truth}, {Rule: api.REqRes, A: 3}}, 3},
		{"the same, as a unit", "X0=X1; ~@q", []api.Step{input(0, "X0=X1"), input(1, "~@q"), {Rule: api.RDemod, A: 1, B: 0, SB: by("0:@q", "1:$true"), C: truth}, {Rule: api.REqRes, A: 2}}, 2},
		{"the same, by an instance made ahead", "X0=X1 | X2!=X2; ~@q", []api.Step{input(0, "X0=X1 | X2!=X2"), input(1, "~@q"), {Rule: api.REqRes, A: 0, LitA: 1, SA: by("0:@q", "1:$true"), C: read("@q")}, {Rule: api.RSup, A: 2, B: 1, C: truth}, {Rule: api.REqRes, A: 3}}, 2},
		{"a variable beside a truth", "X0=$true; ~@q", []api.Step{input(0, "X0=$true"), input(1, "~@q"), {Rule: api.RSup, A: 0, B: 1, C: truth}, {Rule: api.REqRes, A: 2}}, 0},
		{"a truth in a thing", "X0!=@p | X0!=@q; @p", []api.Step{input(0, "X0!=@p | X0!=@q"), input(1, "@p")}, 0},
		{"a truth as an argument", "f(@p)=a; f(@q)=b; a!=b", []api.Step{input(0, "f(@p)=a")}, 0},
		{"of itself", "@p", []api.Step{{Rule: api.RClean, A: 0}}, 0}, {"of one behind it", "@p", []api.Step{{Rule: api.RClean, A: 1}, {Rule: api.RClean, A: 0}}, 0},
		{"one literal is factored with itself", "a=b", []api.Step{input(0, "a=b"), {Rule: api.REqFact, A: 0, C: read("b!=b")}, {Rule: api.REqRes, A: 1}}, 1},
		{"not Neg, resolved", "a=a", []api.Step{input(0, "a=a"), {Rule: api.REqRes, A: 0}}, 1}, {"not the same, resolved", "a!=b", []api.Step{input(0, "a!=b"), {Rule: api.REqRes, A: 0}}, 1},
		{"factored with one that is Neg", "a=b | a!=b", []api.Step{input(0, "a=b | a!=b"), {Rule: api.REqFact, A: 0, LitB: 1, C: read("a!=b | b!=b")}}, 1},
		{"rewritten by one that is Neg", "a!=b; @p(a); ~@p(b)", []api.Step{input(0, "a!=b"), input(1, "@p(a)"), {Rule: api.RSup, A: 0, B: 1, Pos: []int{0}, C: read("@p(b)")}}, 2},
		{"the rest is forgotten", "a=b | @r; a!=b", []api.Step{input(0, "a=b | @r"), input(1, "a!=b"), {Rule: api.RDemod, A: 1, B: 0, C: read("b!=b")}, {Rule: api.REqRes, A: 2}}, 2},
		{"the rest of both", "a=b | @r; a!=b", []api.Step{input(0, "a=b | @r"), input(1, "a!=b"), {Rule: api.RSup, A: 0, B: 1, C: read("b!=b")}, {Rule: api.REqRes, A: 2}}, 2},
		{"two instances of one side", "f(X0)=X0; f(a)!=b", []api.Step{input(0, "f(X0)=X0"), input(1, "f(a)!=b"), {Rule: api.RSup, A: 0, B: 1, C: read("X0!=b")}}, 2},
		{"variables bound in turn", "@p(X0,X1) | X0!=X1", []api.Step{input(0, "@p(X0,X1) | X0!=X1"), {Rule: api.REqRes, A: 0, LitA: 1, SA: by("0:X1", "1:X0"), C: read("@p(X0,X1)")}}, 1},
		{"two variables made one by names", "@p(X0,X1)", []api.Step{{Rule: api.RInput, Name: "in", C: read("@p(X0,X0)")}}, 0},
	} {
		wantProof(t, c.what, []Given{{"in", readAll(c.given)}}, c.proof, c.want, api.ErrProof)
	}
}
