package cnf

import (
	"slices"
	"strings"
	"testing"

	"assize/api"
)

// crossed: the clauses of FOr of that many atoms and that many others.
func crossed(first, second int) string {
	var list []string
	for _, p := range strings.Fields("p0 p1 p2 p3 p4 p5 p6 p7 p8 p9 p10 p11 p12 p13 p14 p15 p16 p17 p18 p19")[:first] {
		for _, q := range strings.Fields("q0 q1 q2 q3 q4 q5 q6 q7 q8 q9 q10 q11 q12 q13 q14 q15 q16 q17 q18 q19")[:second] {
			list = append(list, p+" | "+q)
		}
	}
	return strings.Join(list, "; ")
}

// P1501: a definition comes, if both kids have more than one clause, and more than 16 would come.
func TestDefinedOrNot(t *testing.T) {
	for first := 1; first <= 20; first++ {
		for second := 1; second <= 20; second++ {
			f := or(all("p", first), all("q", second))
			if first == 1 || second == 1 || first*second <= 16 {
				gives(t, f, 0, crossed(first, second))
				continue
			}
			one := strings.ReplaceAll(crossed(first, 1), "q0", "$d0_0")
			other := strings.ReplaceAll(crossed(1, second), "p0", "~$d0_0")
			gives(t, f, 0, one+"; "+other)
		}
	}
}

// P1501: it counts how many clauses a kid has as it is put together: what goes at the end counts there.
func TestDefinedCounts(t *testing.T) {
	always := slices.Repeat([]api.Formula{or(pred("r"), not(pred("r")))}, 3)
	f := or(and(all("p", 2), balanced(api.FAnd, always)), all("q", 4))
	gives(t, f, 0, "p0 | $d0_0; p1 | $d0_0; ~$d0_0 | q0; ~$d0_0 | q1; ~$d0_0 | q2; ~$d0_0 | q3")
	f = or(all("q", 4), and(all("p", 2), balanced(api.FAnd, always)))
	gives(t, f, 0, "q0 | $d0_0; q1 | $d0_0; q2 | $d0_0; q3 | $d0_0; ~$d0_0 | p0; ~$d0_0 | p1")
}

// P1501: numbers of definitions: the first kid's own, then the second kid's own, then this one; also of those beside it.
func TestDefinedNumbers(t *testing.T) {
	both := func(one, other string) api.Formula { return or(all(one, 5), all(other, 4)) }
	own := func(one, number, other, ahead string) string {
		var list []string
		for _, i := range []string{"0", "1", "2", "3", "4"} {
			list = append(list, ahead+one+i+" | $d"+number+"_7")
		}
		for _, i := range []string{"0", "1", "2", "3"} {
			list = append(list, ahead+"~$d"+number+"_7 | "+other+i)
		}
		return strings.Join(list, "; ")
	}
	behind := func(clauses, literal string) string {
		return strings.ReplaceAll(clauses, ";", " | "+literal+";") + " | " + literal
	}
	gives(t, and(both("p", "q"), both("r", "s")), 7, own("p", "0", "q", "")+"; "+own("r", "1", "s", ""))
	gives(t, or(both("p", "q"), both("r", "s")), 7, behind(own("p", "0", "q", ""), "$d2_7")+"; "+own("r", "1", "s", "~$d2_7 | "))
	gives(t, or(both("p", "q"), pred("r")), 7, behind(own("p", "0", "q", ""), "r"))
	gives(t, and(pred("a"), or(pred("r"), both("p", "q"))), 7, "a; "+own("p", "0", "q", "r | "))
	// the second kid's own definition is met behind the first kid's
	left := or(all("u", 2), both("p", "q"))
	gives(t, left, 7, "u0 | $d1_7; u1 | $d1_7; "+own("p", "0", "q", "~$d1_7 | "))
	gives(t, and(left, both("r", "s")), 7, "u0 | $d1_7; u1 | $d1_7; "+own("p", "0", "q", "~$d1_7 | ")+"; "+own("r", "2", "s", ""))
}

// P1501: the arguments of a definition are the variables that are free in the second kid, rising by number.
func TestDefinedArgs(t *testing.T) {
	const rest = " & q2 & q3 & q4 & q5 & q6 & q7 & q8"
	for _, c := range []struct{ f, atom string }{
		{"! [X,Y] : ((p(X,Y) & p(Y,X)) | (q0(Y) & q1(X)" + rest + "))", "$d0_0(X0,X1)"},
		{"! [X,Y] : ((p(Y,X) & p(X,Y)) | (q0(Y) & q1(X)" + rest + "))", "$d0_0(X1,X0)"},
		// those of the first kid alone are not among them
		{"! [X] : ((p(X) & r(X)) | (q0(X) & q1" + rest + "))", "$d0_0(X0)"},
		{"! [X] : ((p(X) & r) | (q0 & q1" + rest + "))", "$d0_0"},
		{"! [X,Y] : (p(X,Y) & r(Y)) | (q0 & q1" + rest + ")", "$d0_0"},
		// what a quantifier within the second kid has is not
		{"! [X] : ((p(X) & r(X)) | (q0(X) & ! [Y] : q1(X,Y) & ? [Z] : q1(X,Z)" + rest + "))", "$d0_0(X0)"},
		{"(p & r) | (! [X] : q0(X) & ! [Y] : ? [Z] : q1(Y,Z)" + rest + ")", "$d0_0"},
		// a Skolem term stands for the variable of an FEx further out
		{"? [Y] : ! [X] : ((p(X,Y) & r) | (q0(X) & q1(Y)" + rest + "))", "$d0_0($s0_0,X0)"},
		{"? [Y] : (r(Y) & ((p(Y) & r) | (q0(Y) & q1" + rest + ")))", "$d0_0($s0_0)"},
		{"! [X] : ? [Y] : (r(X,Y) & ! [Z] : ((p(Y,Z) & r(X,Y)) | (q0(Z) & q1(Y)" + rest + ")))", "$d0_0($s1_0(X0),X1)"},
	} {
		list := made(t, read(t, c.f), 0)
		met := false
		for _, one := range list {
			last := one[len(one)-1]
			if !last.Neg && strings.HasPrefix(last.L.Fn, "@$d0_0") && !met {
				met = true
				if literalText(last) != c.atom {
					t.Errorf("%s: not %s in %s", c.f, c.atom, text(list))
				}
			}
		}
		if !met {
			t.Errorf("%s: no definition in %s", c.f, text(list))
		}
	}
}

// P1501: as many variables as a definition may have, and one more; rising by number, not by bytes.
func TestDefinedManyArgs(t *testing.T) {
	wide := func(count int) api.Formula {
		list := names("X", count)
		down := vars(list)
		slices.Reverse(down)
		kid := func(name string) api.Formula {
			return and(pred(name, down[:10]...), and(pred(name, down[10:]...), all(name, 3)))
		}
		return over(api.FAll, list, or(kid("p"), kid("q")))
	}
	list := made(t, wide(16), 0)
	if got := text(list[:1]); got != "p(X0,X1,X2,X3,X4,X5,X6,X7,X8,X9) | $d0_0(X10,X11,X12,X13,X14,X15,X9,X8,X7,X6,X5,X4,X3,X2,X1,X0)" {
		t.Errorf("%s", got)
	}
	fails(t, wide(17), 0, api.ErrBig)
	// they count in the second kid alone
	list = made(t, over(api.FAll, names("X", 17), or(and(pred("p", vars(names("X", 16))...), and(pred("p", fn("X16")), all("p", 3))), and(pred("q", fn("X16")), all("q", 4)))), 0)
	if got := text(list[1:2]); got != "p(X0) | $d0_0(X0)" {
		t.Errorf("%s", got)
	}
}
