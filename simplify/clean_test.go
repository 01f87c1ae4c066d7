package simplify

import (
	"slices"
	"testing"

	"assize/api"
	"assize/lits"
)

// wantClean: the clause of the step; the text - stands for none.
func wantClean(t *testing.T, c api.Clause, want string) {
	t.Helper()
	s, ok := Clean(c)
	got := sayStep(s)
	if !ok {
		got = "-"
		if s.Rule != 0 || s.A != 0 || s.B != 0 || len(s.C) != 0 {
			t.Errorf("Clean(%s): no step, but %+v", say(c), s)
		}
	}
	if got != want {
		t.Errorf("Clean(%s): %s, not %s", say(c), got, want)
	}
}

// P1703: what stands twice is gone, and what never holds; the names are normal, and the first ones are left.
func TestClean(t *testing.T) {
	for in, want := range map[string]string{
		"@p(a) | @p(a)":                         "@p(a)",
		"@p(a) | $true=@p(a)":                   "@p(a)",
		"$true=@p(a) | @p(a)":                   "$true=@p(a)",
		"a=b | @p(X0) | b=a":                    "a=b | @p(X0)",
		"a!=b | b!=a | a=b":                     "a!=b | a=b",
		"a!=a":                                  "0",
		"a!=a | a!=a":                           "0",
		"X0!=X0 | @p(X3)":                       "@p(X0)",
		"@p(X7) | $true!=$true | @q(X7,X2)":     "@p(X0) | @q(X0,X1)",
		"@p(X4) | @p(X4) | @p(X2)":              "@p(X0) | @p(X1)",
		"@p(X1) | @p(X0) | @p(X1) | @p(X0)":     "@p(X0) | @p(X1)",
		"f(X5)=a | @r | a=f(X5) | @r | ~@r":     "f(X0)=a | @r | ~@r",
		"X1=X2 | X2=X1 | X1=X1 | X2!=X2 | b!=b": "X0=X1 | X0=X0",
		"@p(a)=@p(b) | @p(b)=@p(a)":             "@p(a)=@p(b)",
		"@p(a)!=@p(a) | a=b":                    "a=b",
	} {
		wantClean(t, read(t, in), want)
	}
}

// P1703: no step where nothing is taken away, though names are not normal, or it is a tautology, or another one would be an instance.
func TestCleanNothing(t *testing.T) {
	for _, in := range []string{
		"0", "@p(a)", "@p(X5)", "@p(X5) | @q(X3,X5)", "a=a", "a=a | X0=X0", "@p(a) | ~@p(a)", "a=b | b!=a", "@p(X0) | @p(X1)", "@p(X0) | @p(a)", "a!=b", "X0!=X1", "$true=$true", "f(a)!=f(b) | f(a)=f(b)",
	} {
		wantClean(t, read(t, in), "-")
	}
}

// P1703: it is asked of clauses that are not right or not sorted, too.
func TestCleanWrong(t *testing.T) {
	bad := v(-1)
	wantClean(t, of(yes(bad, bad)), "-")
	wantClean(t, of(not(bad, bad)), "0")
	wantClean(t, of(yes(bad, v(3)), yes(v(3), bad)), "X-1=X0")
	wantClean(t, of(not(v(api.MaxVar), v(0)), not(v(api.MaxVar), v(0))), "X1000000!=X0")
	wantClean(t, read(t, "X0=$true | X0=$true"), "X0=$true")
	wantClean(t, read(t, "f(@p)!=f(@p) | f(@q)=a"), "f(@q)=a")
	deep := chain(1<<16, v(7))
	if s, ok := Clean(of(not(deep, deep), yes(deep, v(7)))); !ok || s.Rule != api.RClean || !lits.Equal(s.C, of(yes(chain(1<<16, v(0)), v(0)))) {
		t.Error("of a deep clause")
	}
	great := flat(2*api.MaxNodes, v(7))
	if s, ok := Clean(of(yes(great, v(9)), yes(v(9), great))); !ok || !lits.Equal(s.C, of(yes(flat(2*api.MaxNodes, v(0)), v(1)))) {
		t.Error("of a great clause")
	}
	long := many(10*api.MaxLits, yes(v(3), v(2)))
	wantClean(t, long, "X0=X1")
	var other api.Clause
	for i := range 3 * api.MaxLits {
		other = append(other, yes(v(i), v(i+1)))
	}
	wantClean(t, other, "-")
	for i, wrong := range wrongClauses(t) {
		twice := slices.Concat(wrong, wrong)
		once, again := Clean(wrong)
		if !again {
			once = api.Step{C: lits.Normal(wrong)}
		}
		if s, ok := Clean(twice); !ok || len(twice) > 0 && !lits.Equal(s.C, once.C) {
			t.Errorf("of the wrong clause %d twice: %v", i, ok)
		}
	}
}

// P1703: of clauses by chance what the words of lits.Clean say.
func TestModelClean(t *testing.T) {
	m := newMaker(175)
	counts := map[bool]int{}
	for range 20000 {
		c := m.clause(5, 2)
		for i, l := range c {
			if m.Intn(3) == 0 {
				c[i].L, c[i].R = l.R, l.L
			}
		}
		var left api.Clause
		for i, l := range c {
			same := func(other api.Lit) bool {
				return l.Neg == other.Neg && (text(l.L) == text(other.L) && text(l.R) == text(other.R) || text(l.L) == text(other.R) && text(l.R) == text(other.L))
			}
			if !slices.ContainsFunc(c[:i], same) && !(l.Neg && text(l.L) == text(l.R)) {
				left = append(left, l)
			}
		}
		want := "-"
		if len(left) < len(c) {
			want = say(lits.Normal(left))
		}
		counts[want == "-"]++
		wantClean(t, c, want)
	}
	if counts[true] < 3000 || counts[false] < 3000 {
		t.Errorf("too few of a kind: %v", counts)
	}
}
