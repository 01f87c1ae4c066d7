package syntax

import (
	"fmt"
	"slices"
	"strings"
	"testing"
	"unsafe"

	"assize/api"
)

// P1301: ordinary texts, and the chapter's examples.
func TestFof(t *testing.T) {
	p, q, r := pred("p"), pred("q"), pred("r")
	a, b, x, y := fn("a"), fn("b"), fn("X"), fn("Y")
	reads(t, Fof, "p", p)
	reads(t, Fof, " p % so", p)
	reads(t, Fof, "$true", yes())
	reads(t, Fof, "$false", no())
	reads(t, Fof, "p(a,f(b))", pred("p", a, fn("f", b)))
	reads(t, Fof, "a = b", eq(a, b))
	reads(t, Fof, "f(a)!=b", not(eq(fn("f", a), b)))
	reads(t, Fof, "~p", not(p))
	reads(t, Fof, "~ ~ a = b", not(not(eq(a, b))))
	reads(t, Fof, "p & q", and(p, q))
	reads(t, Fof, "p | q", or(p, q))
	reads(t, Fof, "p => q", imp(p, q))
	reads(t, Fof, "p <=> q", iff(p, q))
	reads(t, Fof, "p & q & r & p", and(and(and(p, q), r), p))
	reads(t, Fof, "p | q | r", or(or(p, q), r))
	reads(t, Fof, "p & (q & r)", and(p, and(q, r)))
	reads(t, Fof, "(p & q) | r", or(and(p, q), r))
	reads(t, Fof, "(p => q) => r", imp(imp(p, q), r))
	reads(t, Fof, "p => (q => r)", imp(p, imp(q, r)))
	reads(t, Fof, "~ p & q", and(not(p), q))
	reads(t, Fof, "~ (p & q)", not(and(p, q)))
	reads(t, Fof, "(((p)))", p)
	reads(t, Fof, "! [X,Y] : p(X) => q", imp(forAll("X", forAll("Y", pred("p", x))), q))
	reads(t, Fof, "![X]:?[Y]:X=Y", forAll("X", exists("Y", eq(x, y))))
	reads(t, Fof, "? [X,Y] : (p(X) => q(Y))", exists("X", exists("Y", imp(pred("p", x), pred("q", y)))))
	reads(t, Fof, "! [X,X] : X = X", forAll("X", forAll("X", eq(x, x))))
	reads(t, Fof, "! [X] : ~ p(X) & q", and(forAll("X", not(pred("p", x))), q))
	reads(t, Fof, "! [X] : X != a", forAll("X", not(eq(x, a))))
	reads(t, Fof, "a = b & ~ c != d", and(eq(a, b), not(not(eq(fn("c"), fn("d"))))))
	reads(t, Fof, "p(p) & p = p(p,p)", and(pred("p", fn("p")), eq(fn("p"), fn("p", fn("p"), fn("p")))))
}

// P1301: a quoted name is a name, whatever sign it has the text of.
func TestFofQuoted(t *testing.T) {
	reads(t, Fof, "'a b'", pred("a b"))
	reads(t, Fof, "'p'", pred("p"))
	reads(t, Fof, `'it\'s'('=>') & '~'`, and(pred("it's", fn("=>")), pred("~")))
	for _, sign := range strings.Fields("=> <=> != ( ) [ ] , : ! ? ~ & | =") {
		quoted := "'" + sign + "'"
		reads(t, Fof, quoted, pred(sign))
		reads(t, Fof, quoted+"="+quoted, eq(fn(sign), fn(sign)))
		reads(t, Fof, "p("+quoted+","+quoted+")", pred("p", fn(sign), fn(sign)))
		fails(t, Fof, "p "+quoted+" q", 2, api.ErrSyntax)
		fails(t, Fof, quoted+" p", len(quoted)+1, api.ErrSyntax)
		fails(t, Fof, "~ p "+quoted, 4, api.ErrSyntax)
	}
}

// P1301: the first token with which no text goes on, or the text's length.
func TestFofSyntax(t *testing.T) {
	for _, c := range []struct {
		s  string
		at int
	}{
		{"", 0}, {"  ", 2}, {" % p", 4}, {"p &", 3}, {"p & % q", 7}, {"(p", 2}, {"(p ", 3}, {"~", 1}, {"! [X] :", 7}, {"! [X]", 5}, {"! [X", 4}, {"! [", 3}, {"!", 1},
		{"p(", 2}, {"p(a", 3}, {"p(a,", 4}, {"a =", 3}, {"X", 1}, {"X % = a", 7}, {"(X", 2},
		{"p & q | r", 6}, {"p | q & r", 6}, {"p => q => r", 7}, {"p <=> q <=> r", 8}, {"p => q & r", 7}, {"p & q => r", 6}, {"p => q <=> r", 7}, {"(p & q | r)", 7},
		{"p q", 2}, {"p X", 2}, {"p )", 2}, {"p ~ q", 2}, {"p (a) (b)", 6}, {"(p) (q)", 4}, {"p $true", 2}, {"p ! [X] : q", 2}, {"p ]", 2},
		{"X & p", 2}, {"(X)", 2}, {"X(a) = b", 1}, {"~ X", 3}, {"~ X & p", 4}, {"! [X] : X", 9}, {"X => p", 2}, {"p & X | q", 6},
		{"a = b = c", 6}, {"a = b != c", 6}, {"a = ~ b", 4}, {"a = (b)", 4}, {"(a) = b", 4}, {"a = $true", 4}, {"$true = a", 6}, {"= a", 0}, {"a == b", 3}, {"a = ! b", 4},
		{"p()", 2}, {"p(,a)", 2}, {"p(a,)", 4}, {"p(a b)", 4}, {"p(a;b)", -1}, {"p($true)", 2}, {"p(~ a)", 2}, {"p((a))", 2}, {"p(a & b)", 4}, {"p(a = b)", 4}, {"p(X(a))", 3},
		{"! X : p", 2}, {"! [] : p", 3}, {"! [x] : p", 3}, {"! [X,] : p", 5}, {"! [X Y] : p", 5}, {"! [X] p", 6}, {"! [X] : : p", 8}, {"! [f(X)] : p", 3}, {"![X]:p]", 6}, {"! [$true] : p", 3},
		{"! ! [X] : p", 2}, {"& p", 0}, {"p & & q", 4}, {"p & => q", 4}, {"()", 1}, {") p", 0}, {"[X] : p", 0}, {"p <=> => q", 6}, {"$true $false", 6}, {"~ => p", 2},
	} {
		if c.at < 0 { // no token at all
			fails(t, Fof, c.s, 3, api.ErrToken)
			fails(t, Cnf, c.s, 3, api.ErrToken)
			continue
		}
		fails(t, Fof, c.s, c.at, api.ErrSyntax)
		fails(t, Cnf, c.s, c.at, api.ErrSyntax)
	}
}

// P1301: Lex's errors come ahead of all others, with their places.
func TestReadLex(t *testing.T) {
	long := strings.Repeat("a", 64)
	for _, read := range []func(string) (api.Formula, int, api.Errno){Fof, Cnf} {
		fails(t, read, "p @", 2, api.ErrToken)
		fails(t, read, ") ( & 'A'", 6, api.ErrToken)
		fails(t, read, "p\n", 1, api.ErrToken)
		fails(t, read, "p & & "+long, 6, api.ErrBig)
		fails(t, read, "p("+long+")", 2, api.ErrBig)
		fails(t, read, "X"+long, 0, api.ErrBig)
		fails(t, read, strings.Repeat("~", 100)+" q(X) @", 106, api.ErrToken)
		fails(t, read, "p("+strings.Repeat("a,", 20)+"a) @", 45, api.ErrToken)
		fails(t, read, "q(X) $x", 5, api.ErrToken)
	}
	reads(t, Fof, long[1:], pred(long[1:]))
}

// P1301: a function or a predicate has at most MaxArgs arguments, wherever it stands.
func TestFofArgs(t *testing.T) {
	for count := 1; count < 40; count++ {
		args := strings.Repeat("a,", count-1) + "a"
		for s, want := range map[string]api.Formula{
			"p(" + args + ")":                      pred("p", argsOf(count)...),
			"f(" + args + ") = a":                  eq(fn("f", argsOf(count)...), fn("a")),
			"a != f(" + args + ")":                 not(eq(fn("a"), fn("f", argsOf(count)...))),
			"p(b,f(" + args + "),b)":               pred("p", fn("b"), fn("f", argsOf(count)...), fn("b")),
			"q & ! [X] : (p(f(f(" + args + "))))":  and(pred("q"), forAll("X", pred("p", fn("f", fn("f", argsOf(count)...))))),
			"(p(" + args + ") | q) => $true":       imp(or(pred("p", argsOf(count)...), pred("q")), yes()),
			"$true <=> ~ p(" + args + ")":          iff(yes(), not(pred("p", argsOf(count)...))),
			"? [X,Y] : p(" + args + ") & q & r(b)": and(and(exists("X", exists("Y", pred("p", argsOf(count)...))), pred("q")), pred("r", fn("b"))),
		} {
			if count <= 16 {
				reads(t, Fof, s, want)
			} else {
				fails(t, Fof, s, 0, api.ErrBig)
			}
		}
	}
}

// P1301: Size at its limit, and one beyond it.
func TestFofSize(t *testing.T) {
	for _, size := range []int{3990, 3998, 3999, 4000} {
		f := sized(size)
		reads(t, Fof, Show(f), f)
	}
	whole := Show(sized(4000))
	fails(t, Fof, "~ "+whole, 0, api.ErrBig)
	fails(t, Fof, "! [X] : "+whole, 0, api.ErrBig)
	fails(t, Fof, whole+" & $true", 0, api.ErrBig)
	reads(t, Fof, "(("+whole+"))", sized(4000))

	// terms count too: an equation of 16 functions of 16 arguments has 1 + 1 + 16 * 17 + 1 parts
	row := "f(" + strings.Repeat("a,", 15) + "a)"
	atom := "f(" + strings.Repeat(row+",", 15) + row + ") = b"
	parts := strings.Repeat(atom+" & ", 13) + atom // 14 of them, and 13 signs
	rest := 4000 - 14*(1+1+16*17+1) - 13
	for beyond := range 3 {
		s := parts + " & " + Show(sized(rest-1+beyond))
		f, at, err := Fof(s)
		if beyond == 0 && (err != api.OK || at != 0 || Size(f) != 4000) || beyond > 0 && told(f, at, err) != told(api.Formula{}, 0, api.ErrBig) {
			t.Errorf("%d beyond: size %d at %d error %d", beyond, Size(f), at, int(err))
		}
	}
}

// P1301: Depth at its limit, and one beyond it, of each kind of part; parentheses make nothing deeper.
func TestFofDepth(t *testing.T) {
	times := strings.Repeat
	for _, c := range []struct {
		s     func(n int) string
		depth int // of n 0
	}{
		{func(n int) string { return times("~", n) + "$true" }, 1},
		{func(n int) string { return times("~", n) + "p" }, 2},
		{func(n int) string { return times("~", n) + "p(a)" }, 3},
		{func(n int) string { return times("~", n) + "a != b" }, 3},
		{func(n int) string { return times("! [X] : ", n) + "$false" }, 1},
		{func(n int) string { return "? [" + times("X,", n) + "X] : $false" }, 2},
		{func(n int) string { return "p" + times(" & p", n) }, 2},
		{func(n int) string { return "p(a)" + times(" | $true", n) }, 3},
		{func(n int) string { return times("(", n) + "p" + times(" => p)", n) }, 2},
		{func(n int) string { return times("(p <=> ", n) + "p" + times(")", n) }, 2},
		{func(n int) string { return times("f(", n) + "a" + times(")", n) + " = b" }, 2},
		{func(n int) string { return "b = " + times("f(a,", n) + "a" + times(")", n) }, 2},
		{func(n int) string { return "p(a," + times("f(", n) + "a" + times(")", n) + ")" }, 3},
	} {
		for n := 2; n < 80; n++ {
			depth, s := n+c.depth, c.s(n)
			f, at, err := Fof(s)
			if depth <= 60 && (err != api.OK || at != 0 || Depth(f) != depth) {
				t.Fatalf("%q: depth %d, not %d, at %d error %d", s, Depth(f), depth, at, int(err))
			}
			if depth > 60 {
				fails(t, Fof, s, 0, api.ErrDeep)
				fails(t, Fof, "("+s+")", 0, api.ErrDeep)
			}
		}
	}
	reads(t, Fof, times("(", 1000)+"p"+times(")", 1000), pred("p"))
	reads(t, Fof, times("(~ ", 58)+"p"+times(")", 58), first(Fof(times("~", 58)+"p")))
}

func first(f api.Formula, _ int, _ api.Errno) api.Formula { return f }

// P1301: the errors in their order.
func TestFofOrder(t *testing.T) {
	wide, tilde := "p("+strings.Repeat("a,", 16)+"a)", strings.Repeat("~", 60)
	chain := strings.Repeat("p & ", 1000)
	fails(t, Fof, wide+" &", len(wide)+2, api.ErrSyntax)
	fails(t, Fof, tilde+"p &", 63, api.ErrSyntax)
	fails(t, Fof, "q(X) &", 6, api.ErrSyntax)
	fails(t, Fof, chain+"p |", 4002, api.ErrSyntax)
	fails(t, Fof, "q(X) & "+tilde+wide, 0, api.ErrBig)
	fails(t, Fof, tilde+wide, 0, api.ErrBig)
	fails(t, Fof, wide+" & "+tilde+"p", 0, api.ErrBig)
	fails(t, Fof, chain+"p", 0, api.ErrBig)
	fails(t, Fof, chain[:3996]+"p", 0, api.ErrDeep) // 1000 times p: 3999 parts
	fails(t, Fof, "q(X) & "+tilde+"p", 0, api.ErrDeep)
	fails(t, Fof, tilde+"q(X)", 0, api.ErrDeep)
	fails(t, Fof, "q(X) & p", 2, api.ErrFree)
}

// P1301: the first token that is a free variable.
func TestFofFree(t *testing.T) {
	for _, c := range []struct {
		s  string
		at int
	}{
		{"p(X)", 2}, {"X = Y", 0}, {"a = X", 4}, {"a != X", 5}, {" % X", -1}, {"! [X] : p(X) & q(X)", 17}, {"! [X] : p(Y)", 10}, {"p(X) & ! [X] : q(X)", 2},
		{"(! [X] : p(X)) & X = X", 17}, {"! [X] : p(X,Y,Z)", 12}, {"! [X] : (p(X) & q(Y))", 18}, {"! [X] : ? [X] : p(X) & r(X)", 25}, {"! [X] : (? [X] : p(X) & r(X))", -2},
		{"! [X,Y] : (p(X) & r(Y))", -2}, {"! [X] : (p(X) & ! [Y] : X = Y & r(Y))", 34}, {"p(f(g(a,X)))", 8}, {"! [X,X] : p(X) & p(X)", 19}, {"~ p(X)", 4}, {"! [Xy] : p(X)", 11},
		{"! [X] : p(Xy)", 10}, {"? [X] : ($true => X = a)", -2}, {"(? [X] : $true) => X = a", 19}, {"! [X] : X = X | (! [Y] : Y = X)", 29}, {"! [X] : (! [X] : X = X | X = Y)", 29},
	} {
		switch c.at {
		case -1:
			fails(t, Fof, c.s, len(c.s), api.ErrSyntax)
		case -2:
			if f, at, err := Fof(c.s); err != api.OK || at != 0 || Right(f) != api.OK {
				t.Errorf("%q: %s", c.s, told(f, at, err))
			}
		default:
			fails(t, Fof, c.s, c.at, api.ErrFree)
		}
	}
}

// P1301: clauses' texts, with their variables.
func TestCnf(t *testing.T) {
	p, a, x, y, z := pred("p"), fn("a"), fn("X"), fn("Y"), fn("Z")
	reads(t, Cnf, "p", p)
	reads(t, Cnf, "$false", no())
	reads(t, Cnf, "$true", yes())
	reads(t, Cnf, "~ p", not(p))
	reads(t, Cnf, "~ (p)", not(p))
	reads(t, Cnf, "(~ p)", not(p))
	reads(t, Cnf, "a != b", not(eq(a, fn("b"))))
	reads(t, Cnf, "~ a = b", not(eq(a, fn("b"))))
	reads(t, Cnf, "p | $false | ~ p | $true", or(or(or(p, no()), not(p)), yes()))
	reads(t, Cnf, "p | (p | p)", or(p, or(p, p)))
	reads(t, Cnf, "(p | ~ p) | (p | a = a)", or(or(p, not(p)), or(p, eq(a, a))))
	reads(t, Cnf, "p(X)", forAll("X", pred("p", x)))
	reads(t, Cnf, "p(X) | ~ q(Y) | a != X", forAll("X", forAll("Y", or(or(pred("p", x), not(pred("q", y))), not(eq(a, x))))))
	reads(t, Cnf, "p(Y,X,Y) | Z = X", forAll("Y", forAll("X", forAll("Z", or(pred("p", y, x, y), eq(z, x))))))
	reads(t, Cnf, "p(f(Z),a) | ~ (X = Z)", forAll("Z", forAll("X", or(pred("p", fn("f", z), a), not(eq(x, z))))))
	reads(t, Cnf, "X = Y", forAll("X", forAll("Y", eq(x, y))))
}

// P1301: formulas that are no clauses' texts.
func TestCnfSyntax(t *testing.T) {
	for _, s := range []string{
		"p & q", "p => q", "p <=> q", "! [X] : p(X)", "? [X] : p(X)", "p | (q & r)", "(q & r) | p", "~ ~ p", "~ a != b", "~ $true", "~ $false", "~ (p | q)", "p | ~ (q | r)",
		"p | q | ! [X] : p(X)", "! [X] : (p(X) | q)", "p(X) & q(X)", "~ ~ p(X)", "~ X != a", "(p | q) => r", "p(Y) | ~ ~ q", "! [X] : X = X | p", "(p & q)", "~ (~ p)", "p | q | (r | (s => u))",
	} {
		fails(t, Cnf, s, 0, api.ErrSyntax)
	}
}

// P1301: what a clause's text says at the limits, ahead of its quantifiers and with them.
func TestCnfLimits(t *testing.T) {
	for _, size := range []int{3997, 3998, 3999, 4000} {
		f := clauseSized(size, fn("a"))
		if Size(f) != size {
			t.Fatalf("a clause of %d, not %d", Size(f), size)
		}
		reads(t, Cnf, Show(f), f)
	}
	fails(t, Cnf, Show(clauseSized(4000, fn("a")))+"| p", 0, api.ErrBig)
	f := clauseSized(3999, fn("X"))
	reads(t, Cnf, Show(f), forAll("X", f))
	fails(t, Cnf, Show(clauseSized(4000, fn("X"))), 0, api.ErrBig)
	f = clauseSized(3998, fn("f", fn("Y"), fn("X"), fn("Y")))
	reads(t, Cnf, Show(f), forAll("Y", forAll("X", f)))
	fails(t, Cnf, Show(clauseSized(3999, fn("f", fn("Y"), fn("X"), fn("Y")))), 0, api.ErrBig)

	a, x := fn("a"), fn("X")
	reads(t, Cnf, Show(eq(deep(58, a), a)), eq(deep(58, a), a))
	fails(t, Cnf, "p | "+Show(eq(deep(58, a), a)), 0, api.ErrDeep)
	reads(t, Cnf, Show(eq(deep(57, x), a)), forAll("X", eq(deep(57, x), a)))
	fails(t, Cnf, Show(eq(deep(58, x), a)), 0, api.ErrDeep)
	reads(t, Cnf, Show(eq(deep(56, x), fn("Y"))), forAll("X", forAll("Y", eq(deep(56, x), fn("Y")))))
	fails(t, Cnf, Show(eq(deep(57, x), fn("Y"))), 0, api.ErrDeep)
}

// P1301: many variables make a clause too deep, and too great ahead of that.
func TestCnfManyVariables(t *testing.T) {
	clause := func(vars, more int) string { // by pairs of pairs, so that it is flat
		var rows []string
		for i := range vars {
			rows = append(rows, fmt.Sprintf("X%d = a", i))
		}
		for range more {
			rows = append(rows, "$false")
		}
		for len(rows) > 1 {
			var next []string
			for row := range slices.Chunk(rows, 2) {
				if len(row) == 2 {
					row = []string{"(" + row[0] + " | " + row[1] + ")"}
				}
				next = append(next, row...)
			}
			rows = next
		}
		return rows[0]
	}
	if f, _, err := Cnf(clause(52, 0)); err != api.OK || Depth(f) != 60 || f.Name != "X0" { // 6 signs, an atom, a side
		t.Errorf("depth %d error %d", Depth(f), int(err))
	}
	fails(t, Cnf, clause(53, 0), 0, api.ErrDeep)
	fails(t, Cnf, clause(800, 0), 0, api.ErrDeep)          // 3199 and 800 parts
	fails(t, Cnf, clause(800, 1), 0, api.ErrBig)           // 3201 and 800
	fails(t, Cnf, clause(1001, 0), 0, api.ErrBig)          // too great without them
	fails(t, Cnf, clause(800, 1)+" & p", 0, api.ErrSyntax) // no clause's text, and not too great itself
	fails(t, Cnf, clause(1001, 0)+" & p", 0, api.ErrBig)   // too great itself
	fails(t, Cnf, clause(60, 0)+" | "+strings.Repeat("~", 60)+"p", 0, api.ErrDeep)
}

// Rule 4: what is answered is the caller's own: new memory, no list of which is another one's, too.
func TestReadOwn(t *testing.T) {
	s := strings.Clone("! [X,Y] : (p(X,f(a,Y)) => ('q r' & X = Y & $true))")
	clause := strings.Clone("p(X,f(a,Y)) | ~ 'q r' | X != Y")
	for text, read := range map[string]func(string) (api.Formula, int, api.Errno){s: Fof, clause: Cnf} {
		f, _, _ := read(text)
		want := raw(f)
		alone(t, f)
		begin := uintptr(unsafe.Pointer(unsafe.StringData(text)))
		spoil(&f, func(name string) {
			if place := uintptr(unsafe.Pointer(unsafe.StringData(name))); name != "" && begin <= place && place < begin+uintptr(len(text)) {
				t.Errorf("%q holds the whole text", name)
			}
		})
		if f, at, err := read(text); raw(f) != want || at != 0 || err != api.OK {
			t.Errorf("%q: %s, not %s", text, told(f, at, err), want)
		}
	}
}

// alone: no two lists of the formula share any memory.
func alone(t *testing.T, f api.Formula) {
	t.Helper()
	seen := map[any]int{}
	var terms func(list []api.Term)
	terms = func(list []api.Term) {
		for i := range list[:cap(list)] {
			seen[&list[:cap(list)][i]]++
		}
		for _, one := range list {
			terms(one.Args)
		}
	}
	var formulas func(list []api.Formula)
	formulas = func(list []api.Formula) {
		for i := range list[:cap(list)] {
			seen[&list[:cap(list)][i]]++
		}
		for _, one := range list {
			terms(one.L.Args)
			terms(one.R.Args)
			formulas(one.Kids)
		}
	}
	formulas(f.Kids)
	terms(f.L.Args)
	terms(f.R.Args)
	for place, count := range seen {
		if count > 1 {
			t.Fatalf("%v stands in %d lists", place, count)
		}
	}
}

// spoil: writes over all of the formula, spare room too, and shows each text in it.
func spoil(f *api.Formula, show func(name string)) {
	var term func(one *api.Term)
	term = func(one *api.Term) {
		show(one.Fn)
		for i := range one.Args[:cap(one.Args)] {
			term(&one.Args[:cap(one.Args)][i])
		}
		*one = api.Term{Var: 9, Fn: "spoilt"}
	}
	show(f.Name)
	term(&f.L)
	term(&f.R)
	for i := range f.Kids[:cap(f.Kids)] {
		spoil(&f.Kids[:cap(f.Kids)][i], show)
	}
	*f = api.Formula{Kind: 99, Name: "spoilt"}
}

// Rule 1: texts with many things within one another, and long ones, end soon.
func TestReadGreat(t *testing.T) {
	const n = 1 << 16
	times := strings.Repeat
	reads(t, Fof, times("(", n)+"p"+times(")", n), pred("p"))
	fails(t, Fof, times("(", n), n, api.ErrSyntax)
	fails(t, Fof, times("(", n)+"p"+times(")", n-1), 2*n, api.ErrSyntax)
	fails(t, Fof, times("(", n)+"p"+times(")", n+1), 2*n+1, api.ErrSyntax)
	fails(t, Fof, times("~", n)+"p", 0, api.ErrBig)
	fails(t, Fof, times("(~", n)+"p"+times(")", n), 0, api.ErrBig)
	fails(t, Fof, times("! [X] : ", n)+"p(X)", 0, api.ErrBig)
	fails(t, Fof, "! ["+times("X,", n)+"X] : p(X)", 0, api.ErrBig)
	fails(t, Fof, "p("+times("f(", n)+"a"+times(")", n)+")", 0, api.ErrBig)
	fails(t, Fof, times("f(", n), 2*n, api.ErrSyntax)
	fails(t, Fof, times("(p => ", n)+"p"+times(")", n), 0, api.ErrBig)
	fails(t, Fof, times("(", n)+"p"+times(" & p)", n), 0, api.ErrBig)
	fails(t, Fof, times("p & ", 1<<19)+"p", 0, api.ErrBig)
	fails(t, Fof, times("p & ", 1<<19), 1<<21, api.ErrSyntax)
	fails(t, Cnf, times("p | ", 1<<19)+"p", 0, api.ErrBig)
	fails(t, Fof, "p("+times("a,", 1<<20)+"a)", 0, api.ErrBig)
	fails(t, Fof, "! ["+times("X,", 1<<20), 3+1<<21, api.ErrSyntax)
	var vars strings.Builder
	for i := range 1 << 17 {
		fmt.Fprintf(&vars, "X%d = a | ", i)
	}
	fails(t, Cnf, vars.String()+"p", 0, api.ErrBig)
	fails(t, Fof, vars.String()+"p", 0, api.ErrBig)
}
