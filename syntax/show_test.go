package syntax

import (
	"fmt"
	"math/rand"
	"slices"
	"strings"
	"testing"

	"assize/api"
)

// P1303: each kind, and the chapter's examples.
func TestShow(t *testing.T) {
	p, q, a, b, x := pred("p"), pred("q"), fn("a"), fn("b"), fn("X")
	for _, c := range []struct {
		f    api.Formula
		want string
	}{
		{yes(), "$true"}, {no(), "$false"}, {p, "p"}, {pred("p", a), "p(a)"}, {pred("p", a, x, fn("f", b, x)), "p(a,X,f(b,X))"},
		{eq(a, b), "a = b"}, {eq(x, fn("f", x)), "X = f(X)"}, {not(eq(a, b)), "a != b"}, {not(not(eq(a, b))), "~ a != b"}, {not(not(not(eq(a, b)))), "~ ~ a != b"},
		{not(p), "~ p"}, {not(not(p)), "~ ~ p"}, {not(pred("p", x)), "~ p(X)"}, {not(yes()), "~ $true"}, {not(and(p, q)), "~ (p & q)"}, {not(forAll("X", p)), "~ ! [X] : p"},
		{forAll("X", p), "! [X] : p"}, {exists("Xy_1", p), "? [Xy_1] : p"}, {forAll("X", exists("Y", eq(x, fn("Y")))), "! [X] : ? [Y] : X = Y"}, {forAll("X", and(p, q)), "! [X] : (p & q)"},
		{forAll("X", not(eq(x, a))), "! [X] : X != a"}, {and(p, q), "(p & q)"}, {or(p, q), "(p | q)"}, {imp(p, q), "(p => q)"}, {iff(p, q), "(p <=> q)"},
		{and(and(p, q), p), "((p & q) & p)"}, {and(p, and(q, p)), "(p & (q & p))"}, {imp(forAll("X", forAll("Y", pred("p", x))), q), "(! [X] : ! [Y] : p(X) => q)"},
		{and(eq(a, b), not(not(eq(fn("c"), fn("d"))))), "(a = b & ~ c != d)"}, {or(or(pred("p", x), not(pred("q", fn("Y")))), not(eq(a, x))), "((p(X) | ~ q(Y)) | a != X)"},
		{pred("a b", fn("it's"), fn(`\`)), `'a b'('it\'s','\\')`}, {eq(fn("0"), fn("=>", fn("~"))), "'0' = '=>'('~')"}, {pred("x"), "x"}, {pred("_"), "'_'"}, {not(eq(fn(" "), a)), "' ' != a"},
		{exists("X", iff(no(), not(or(yes(), pred("p", fn("f", fn("f", x))))))), "? [X] : ($false <=> ~ ($true | p(f(f(X)))))"},
		{api.Formula{}, ""}, {not(api.Formula{}), ""}, {eq(a, fn("$true")), ""}, {forAll("x", p), ""}, {pred("p", argsOf(17)...), ""}, {and(sized(4000), p), ""}, {eq(deep(59, a), a), ""}, {eq(x, fn("X", a)), ""},
	} {
		if got := Show(c.f); got != c.want {
			t.Errorf("%.300s: %.300q, not %.300q", raw(c.f), got, c.want)
		}
	}
	if got, want := Show(pred("p", argsOf(16)...)), "p("+strings.Repeat("a,", 15)+"a)"; got != want {
		t.Errorf("%q, not %q", got, want)
	}
	if got, want := Show(eq(deep(58, a), a)), strings.Repeat("f(", 58)+"a"+strings.Repeat(")", 58)+" = a"; got != want {
		t.Errorf("%q, not %q", got, want)
	}
}

// back: Fof of Show is the formula, and no other one has that text.
func back(t *testing.T, f api.Formula) string {
	t.Helper()
	text := Show(f)
	g, at, err := Fof(text)
	if told(g, at, err) != told(f, 0, api.OK) || !Same(f, g) {
		t.Fatalf("%.500q: %.500s, not %.500s", text, told(g, at, err), raw(f))
	}
	return text
}

// P1305: formulas by chance are read back.
func TestBackChance(t *testing.T) {
	m := newMaker(137)
	texts := map[string]string{}
	for range 20000 {
		f := m.formula(1 + m.Intn(8))
		text := back(t, f)
		if other, ok := texts[text]; ok && other != raw(f) {
			t.Fatalf("%q is the text of two", text)
		}
		texts[text] = raw(f)
	}
	if len(texts) < 10000 {
		t.Errorf("only %d texts", len(texts))
	}
}

// P1305: all small formulas are read back, closed ones by Fof; the others miss just their quantifiers.
func TestBackAll(t *testing.T) {
	layers := [][]api.Formula{{yes(), no(), pred("p"), pred("p", fn("X")), eq(fn("a"), fn("X")), eq(fn("X"), fn("Y")), eq(fn("f", fn("X")), fn("a b"))}}
	for range 2 {
		all := slices.Concat(layers...)
		last := layers[len(layers)-1]
		var next []api.Formula
		for _, f := range last {
			next = append(next, not(f), forAll("X", f), exists("Y", f))
			for _, g := range all[:min(len(all), 20)] {
				for kind := api.FAnd; kind <= api.FIff; kind++ {
					next = append(next, of(kind, "", f, g), of(kind, "", g, f))
				}
			}
		}
		layers = append(layers, next)
	}
	shut := 0
	for _, f := range slices.Concat(layers...) {
		if len(Free(f)) == 0 {
			back(t, f)
			shut++
		} else if _, _, err := Fof(Show(f)); err != api.ErrFree {
			t.Fatalf("%q: error %d", Show(f), int(err))
		}
		back(t, forAll("Y", forAll("X", f)))
	}
	if shut < 3000 {
		t.Errorf("only %d closed ones", shut)
	}
}

// P1305: formulas at the limits are read back: the parentheses of Show make nothing deeper.
func TestBackLimits(t *testing.T) {
	left, right := yes(), pred("p", fn("a"))
	for range 57 {
		left, right = and(left, no()), imp(yes(), right)
	}
	for _, f := range []api.Formula{
		left, right, not(not(left)), sized(4000), clauseSized(4000, fn("a")), eq(deep(58, fn("'")), deep(58, fn("a"))), pred("p", deep(57, fn("a"))), pred("p", slices.Repeat([]api.Term{fn("f", argsOf(16)...)}, 16)...),
	} {
		back(t, f)
	}
}

// bare: a formula as a text in which each bound variable tells how many quantifiers stand between it and its own: names of bound variables do not count.
func bare(f api.Formula, around []string) string {
	var term func(t api.Term) string
	term = func(t api.Term) string {
		if variableName(t.Fn) {
			if at := slices.Index(around, t.Fn); at >= 0 {
				return fmt.Sprintf("#%d", at)
			}
			return "free " + t.Fn
		}
		text := fmt.Sprintf("%q(", t.Fn)
		for _, arg := range t.Args {
			text += term(arg) + ";"
		}
		return text + ")"
	}
	text := fmt.Sprintf("{%d %s %s", f.Kind, term(f.L), term(f.R))
	if f.Name != "" {
		around = append([]string{f.Name}, around...)
	}
	for _, kid := range f.Kids {
		text += bare(kid, around)
	}
	return text + "}"
}

// quantified: the names of the quantifiers, as they stand.
func quantified(f api.Formula) []string {
	var names []string
	if f.Name != "" {
		names = []string{f.Name}
	}
	for _, kid := range f.Kids {
		names = append(names, quantified(kid)...)
	}
	return names
}

// P1304: ordinary formulas, those that are not right, and those that have a free variable.
func TestCanon(t *testing.T) {
	for _, c := range [][2]string{
		{"p", "p"}, {"$true", "$true"}, {"! [X] : p(X)", "! [X0] : p(X0)"}, {"? [Zz] : p(Zz,a)", "? [X0] : p(X0,a)"}, {"! [X] : $true", "! [X0] : $true"},
		{"! [X,Y] : r(Y,X)", "! [X0] : ! [X1] : r(X1,X0)"}, {"! [X1] : ? [X0] : r(X0,X1)", "! [X0] : ? [X1] : r(X1,X0)"}, {"! [X] : ! [X] : p(X)", "! [X0] : ! [X1] : p(X1)"},
		{"(! [X] : p(X)) & ? [X] : q(X)", "(! [X0] : p(X0) & ? [X1] : q(X1))"}, {"! [X] : (p(X) & ! [X] : q(X))", "! [X0] : (p(X0) & ! [X1] : q(X1))"},
		{"! [X] : ((? [X] : q(X)) & p(X))", "! [X0] : (? [X1] : q(X1) & p(X0))"}, {"! [X] : ((! [Y] : r(X,Y)) => ! [Z] : r(Z,X))", "! [X0] : (! [X1] : r(X0,X1) => ! [X2] : r(X2,X0))"},
		{"~ ! [A] : ~ ? [B] : f(A) != g(B,A)", "~ ! [X0] : ~ ? [X1] : f(X0) != g(X1,X0)"}, {"! [X] : ((? [X] : ! [X] : p(X)) <=> p(X))", "! [X0] : (? [X1] : ! [X2] : p(X2) <=> p(X0))"},
		{"! [X5] : (p(X5) | (! [X4] : q(X4)) | ! [X3] : r(X3,X5))", "! [X0] : ((p(X0) | ! [X1] : q(X1)) | ! [X2] : r(X2,X0))"},
	} {
		f, _, err := Fof(c[0])
		if got := Show(Canon(f)); err != api.OK || got != c[1] {
			t.Errorf("%q: %q, not %q", c[0], got, c[1])
		}
	}
	for _, f := range []api.Formula{
		{}, not(api.Formula{}), pred("p", fn("X")), eq(fn("X"), fn("a")), and(forAll("X", pred("p", fn("X"))), pred("p", fn("X"))), forAll("X", pred("p", fn("Y"))), forAll("x", yes()),
		and(sized(4000), yes()), eq(deep(59, fn("a")), fn("a")), pred("p", argsOf(17)...), {Kind: api.FTrue, Name: "X"}, forAll("X", pred("p", fn("X", fn("X")))), forAll("X", pred("p", api.Term{Var: 1})),
	} {
		if got := raw(Canon(f)); got != raw(no()) {
			t.Errorf("%.300s: %.300s", raw(f), got)
		}
	}
	many := forAll("X", pred("p", fn("X")))
	for range 6 {
		many = and(many, many)
	}
	text := Show(Canon(many))
	for i := range 64 {
		if !strings.Contains(text, fmt.Sprintf("! [X%d] : p(X%d)", i, i)) {
			t.Errorf("X%d is missing: %q", i, text)
		}
	}
	if got := Canon(sized(4000)); !Same(got, sized(4000)) {
		t.Error("what has no variable is not left as it is")
	}
}

// P1304, P1305: Canon keeps all but names of bound variables, and names the quantifiers in order; that is all it hangs on.
func TestCanonChance(t *testing.T) {
	m := newMaker(138)
	m.vars = []string{"X", "Y", "X0", "X1", "X2"}
	names := 0
	for range 20000 {
		f := m.formula(1 + m.Intn(7))
		g := Canon(f)
		if Right(g) != api.OK || bare(g, nil) != bare(f, nil) {
			t.Fatalf("%q: %q", Show(f), Show(g))
		}
		for i, name := range quantified(g) {
			if name != fmt.Sprintf("X%d", i) {
				t.Fatalf("%q: %q", Show(f), Show(g))
			}
			names++
		}
		if !Same(Canon(g), g) {
			t.Fatalf("%q: twice is not as once: %q", Show(f), Show(Canon(g)))
		}
		h := renamed(m.Rand, f, nil)
		if bare(h, nil) != bare(f, nil) || !Same(Canon(h), g) {
			t.Fatalf("%q is %q, and of %q %q", Show(f), Show(g), Show(h), Show(Canon(h)))
		}
		back(t, g)
	}
	if names < 20000 {
		t.Errorf("only %d quantifiers", names)
	}
}

// renamed: the formula with other names of bound variables; around tells, of each quantifier around, the name that was and the name that is.
func renamed(r *rand.Rand, f api.Formula, around [][2]string) api.Formula {
	now := func(name string) string {
		for _, pair := range slices.Backward(around) {
			if pair[0] == name {
				return pair[1]
			}
		}
		return name
	}
	var term func(t api.Term) api.Term
	term = func(t api.Term) api.Term {
		if variableName(t.Fn) {
			return fn(now(t.Fn))
		}
		args := slices.Clone(t.Args)
		for i := range args {
			args[i] = term(args[i])
		}
		return fn(t.Fn, args...)
	}
	f.L, f.R = term(f.L), term(f.R)
	if f.Name != "" { // a name that no quantifier around has now
		name := fmt.Sprintf("X%d", r.Intn(9))
		for slices.ContainsFunc(around, func(pair [2]string) bool { return pair[1] == name }) {
			name = fmt.Sprintf("X%d", r.Intn(99))
		}
		around = append(slices.Clone(around), [2]string{f.Name, name})
		f.Name = name
	}
	kids := slices.Clone(f.Kids)
	for i := range kids {
		kids[i] = renamed(r, kids[i], around)
	}
	f.Kids = kids
	return f
}

// P1305: formulas whose Canon is one differ by names of bound variables alone.
func TestCanonApart(t *testing.T) {
	m := newMaker(139)
	m.names, m.vars = []string{"a"}, []string{"X", "Y"}
	known := map[string]string{}
	for range 30000 {
		f := m.formula(1 + m.Intn(4))
		canon, text := raw(Canon(f)), bare(f, nil)
		if other, ok := known[canon]; ok && other != text {
			t.Fatalf("%s is the Canon of %s and %s", canon, other, text)
		}
		known[canon] = text
	}
	if len(known) < 3000 {
		t.Errorf("only %d", len(known))
	}
}
