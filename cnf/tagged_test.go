package cnf

import (
	"math"
	"slices"
	"strings"
	"testing"

	"assize/api"
	"assize/lits"
)

// clauseOf: one literal, whose left side has the name.
func clauseOf(name string) []api.Clause { return []api.Clause{{{L: fn(name), R: fn("$true")}}} }

// P1502: which names have another tag then, and which are as they were.
func TestTaggedNames(t *testing.T) {
	for _, c := range []struct {
		from, to   int
		name, want string
	}{
		{7, 12, "$s1_7", "$s1_12"}, {7, 12, "@$d0_7", "@$d0_12"}, {12, 7, "$s1_12", "$s1_7"}, {0, 1000000, "$s3999_0", "$s3999_1000000"}, {1000000, 0, "@$d12_1000000", "@$d12_0"},
		{7, 7, "$s1_7", "$s1_7"}, {3, 4, "$s3_3", "$s3_4"}, {3, 4, "$s4_3", "$s4_4"}, {3, 4, "$s007_3", "$s007_4"}, {3, 4, "$s0123456789_3", "$s0123456789_4"},
		// another tag
		{7, 12, "$s1_17", "$s1_17"}, {7, 12, "$s1_70", "$s1_70"}, {7, 12, "$s7_1", "$s7_1"}, {7, 12, "$s1_07", "$s1_07"}, {7, 12, "$s1_12", "$s1_12"}, {0, 5, "$s1_10", "$s1_10"}, {10, 5, "$s1_0", "$s1_0"}, {0, 5, "$s1_00", "$s1_00"},
		// other names
		{7, 12, "s1_7", "s1_7"}, {7, 12, "$d1_7", "$d1_7"}, {7, 12, "@$s1_7", "@$s1_7"}, {7, 12, "@d1_7", "@d1_7"}, {7, 12, "@$d_7", "@$d_7"}, {7, 12, "$s_7", "$s_7"}, {7, 12, "_7", "_7"}, {7, 12, "1_7", "1_7"}, {7, 12, "$s7", "$s7"}, {7, 12, "$s17", "$s17"},
		{7, 12, "$s1_7_7", "$s1_7_7"}, {7, 12, "$sa_7", "$sa_7"}, {7, 12, "$s1a_7", "$s1a_7"}, {7, 12, "$s 1_7", "$s 1_7"}, {7, 12, "$s-1_7", "$s-1_7"}, {7, 12, "$s+1_7", "$s+1_7"}, {7, 12, "$s1__7", "$s1__7"}, {7, 12, "$s1_7 ", "$s1_7 "}, {7, 12, " $s1_7", " $s1_7"},
		{7, 12, "$S1_7", "$S1_7"}, {7, 12, "$$s1_7", "$$s1_7"}, {7, 12, "@$$d1_7", "@$$d1_7"}, {7, 12, "$s$s1_7", "$s$s1_7"}, {7, 12, "$s1.5_7", "$s1.5_7"}, {7, 12, "$s\u0663_7", "$s\u0663_7"}, {7, 12, "$s1_\u0667", "$s1_\u0667"}, {7, 12, "$s\xff_7", "$s\xff_7"},
		{7, 12, "$true", "$true"}, {7, 12, "$s", "$s"}, {7, 12, "@$d", "@$d"}, {7, 12, "7", "7"}, {7, 12, "$s/_7", "$s/_7"}, {7, 12, "$s:_7", "$s:_7"}, {7, 12, "@$d1_7x", "@$d1_7x"},
	} {
		got, err := Tagged(clauseOf(c.name), c.from, c.to)
		if err != api.OK || len(got) != 1 || got[0][0].L.Fn != c.want || termText(got[0][0].R) != "$true" {
			t.Errorf("%q from %d to %d: error %d, %s", c.name, c.from, c.to, int(err), text(got))
		}
	}
}

// P1502: such names stand anywhere; all else is as it was.
func TestTaggedWhole(t *testing.T) {
	s, d := fn("$s1_7", x(4), fn("$s2_7")), fn("@$d0_7", x(9), fn("f", fn("$s3_7", fn("@$d1_7"))))
	list := []api.Clause{
		{{Neg: true, L: d, R: fn("$true")}, {L: x(4), R: s}, {L: s, R: x(4)}, {L: s, R: x(4)}},
		{}, {{Neg: true, L: s, R: s}}, {{L: fn("$s1_8", s), R: fn("g", fn("$s1_7"), fn("$s1_12"))}}, {{L: fn("$s1_7"), R: fn("$s1_12")}, {Neg: true, L: fn("$s1_12"), R: fn("$s1_7")}},
	}
	got, err := Tagged(list, 7, 12)
	want := "~$d0_12(X9,f($s3_12(@$d1_12))) | X4 = $s1_12(X4,$s2_12) | $s1_12(X4,$s2_12) = X4 | $s1_12(X4,$s2_12) = X4; []; $s1_12(X4,$s2_12) != $s1_12(X4,$s2_12); $s1_8($s1_12(X4,$s2_12)) = g($s1_12,$s1_12); $s1_12 = $s1_12 | $s1_12 != $s1_12"
	if err != api.OK || text(got) != want {
		t.Errorf("error %d\n%s\nnot\n%s", int(err), text(got), want)
	}
	for _, none := range [][]api.Clause{nil, {}} {
		if got, err := Tagged(none, 0, 1); err != api.OK || len(got) != 0 {
			t.Errorf("error %d, %s", int(err), text(got))
		}
	}
}

// P1502: tags that can't be, and clauses that are not right.
func TestTaggedWrong(t *testing.T) {
	good := clauseOf("$s1_0")
	fails := func(l []api.Clause, from, to int) {
		t.Helper()
		if got, err := Tagged(l, from, to); err != api.ErrArg || len(got) != 0 {
			t.Errorf("error %d and %d clauses from %d to %d", int(err), len(got), from, to)
		}
	}
	for _, tag := range []int{-1, 1000001, math.MinInt, math.MaxInt} {
		fails(good, tag, 0)
		fails(good, 0, tag)
		fails(good, tag, tag)
		fails(nil, tag, 0)
		fails(nil, 0, tag)
	}
	deep := fn("a")
	for range 60 {
		deep = fn("f", deep)
	}
	broad := fn("f", slices.Repeat([]api.Term{fn("a")}, 17)...)
	for _, side := range []api.Term{deep, broad, x(-1), x(1000000), {Var: 1, Fn: "a"}, {Args: []api.Term{fn("a")}}, fn(strings.Repeat("n", 65)), fn("f", x(-5))} {
		fails([]api.Clause{{{L: side, R: fn("a")}}}, 0, 1)
		fails([]api.Clause{good[0], {}, {{L: fn("a"), R: fn("a")}, {L: fn("a"), R: side}}}, 0, 1)
	}
	fails([]api.Clause{slices.Repeat(good[0], 61)}, 0, 1)
	great := slices.Repeat(api.Clause{{L: balancedTerm(slices.Repeat([]api.Term{fn("a")}, 50)), R: fn("a")}}, 40)
	if lits.Size(great) != 4000 {
		t.Fatalf("size %d", lits.Size(great))
	}
	got, err := Tagged([]api.Clause{great, slices.Repeat(good[0], 60)}, 0, 1)
	if err != api.OK || len(got) != 2 || !lits.Equal(got[0], great) || !lits.Equal(got[1], slices.Repeat(clauseOf("$s1_1")[0], 60)) {
		t.Errorf("error %d, %s", int(err), text(got))
	}
	great[39].R = fn("f", fn("a"))
	fails([]api.Clause{great}, 0, 1)
}

// P1503: clauses with one tag are those with another one, Tagged; back again, as they were.
func TestTaggedClauses(t *testing.T) {
	m := newMaker(152, append(allKinds(), api.FIff, api.FEx)...)
	changed, named := 0, 0
	for range 800 {
		f := m.formula(2+m.Intn(5), nil)
		from, to := pick(m, []int{0, 1, 10, 1000000}), pick(m, []int{0, 3, 10, 999})
		one, err := Clauses(f, from)
		if err != api.OK {
			continue
		}
		want := text(made(t, f, to))
		got, err := Tagged(one, from, to)
		if err != api.OK || text(got) != want {
			t.Fatalf("%s from %d to %d: error %d\n%s\nnot\n%s", shown(f), from, to, int(err), text(got), want)
		}
		back, err := Tagged(got, to, from)
		if err != api.OK || text(back) != text(one) {
			t.Fatalf("%s is %s", text(one), text(back))
		}
		if want != text(one) {
			changed++
		}
		if strings.Contains(want, "$d") {
			named++
		}
	}
	if changed < 200 || named < 50 {
		t.Errorf("only %d changed, %d with definitions", changed, named)
	}
}
