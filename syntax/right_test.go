package syntax

import (
	"math"
	"slices"
	"strings"
	"testing"

	"assize/api"
)

// is: Right's answer.
func is(t *testing.T, f api.Formula, want api.Errno) {
	t.Helper()
	if got := Right(f); got != want {
		t.Errorf("Right of %.300s: %d, not %d", raw(f), int(got), int(want))
	}
}

// kinds: all that there are, and how many kids each has.
func kinds() map[int]int {
	return map[int]int{
		api.FAtom: 0, api.FTrue: 0, api.FFalse: 0, api.FNot: 1, api.FAll: 1, api.FEx: 1, api.FAnd: 2, api.FOr: 2, api.FImp: 2, api.FIff: 2,
	}
}

// plain: a right formula of that kind.
func plain(kind int) api.Formula {
	f := of(kind, "", slices.Repeat([]api.Formula{pred("p")}, kinds()[kind])...)
	switch kind {
	case api.FAtom:
		f = eq(fn("a"), fn("X"))
	case api.FAll, api.FEx:
		f.Name = "X"
	}
	return f
}

// P1302: each kind as it is, with other kids, another name, other terms.
func TestRightKinds(t *testing.T) {
	for kind, kids := range kinds() {
		is(t, plain(kind), api.OK)
		is(t, not(and(plain(kind), yes())), api.OK)
		for count := range 5 {
			f := plain(kind)
			f.Kids = slices.Repeat([]api.Formula{yes()}, count)
			if count == kids {
				is(t, f, api.OK)
			} else {
				is(t, f, api.ErrArg)
				is(t, forAll("Y", or(yes(), f)), api.ErrArg)
			}
		}
		if kids == 0 {
			f := plain(kind)
			f.Kids = []api.Formula{}
			is(t, f, api.OK)
		}
		quantifier := kind == api.FAll || kind == api.FEx
		for _, name := range []string{"", "X", "Xy_1", "x", "X y", "X'", "_", "@p", "$true", "0", "\xff", "X" + strings.Repeat("a", 62), "X" + strings.Repeat("a", 63)} {
			f := plain(kind)
			f.Name = name
			fits := name == ""
			if quantifier {
				fits = name != "" && name[0] == 'X' && len(name) < 64 && !strings.ContainsAny(name, " '")
			}
			if fits {
				is(t, f, api.OK)
			} else {
				is(t, f, api.ErrArg)
				is(t, imp(yes(), f), api.ErrArg)
			}
		}
		if kind != api.FAtom {
			rightTerms(t, plain(kind))
		}
	}
}

// rightTerms: where no terms belong they are zero.
func rightTerms(t *testing.T, f api.Formula) {
	t.Helper()
	f.L, f.R = api.Term{Args: []api.Term{}}, api.Term{Args: []api.Term{}}
	is(t, f, api.OK)
	for _, wrong := range []api.Term{fn("a"), fn("X"), fn("$true"), fn("@p"), {Var: 1}, {Var: -1}, {Args: []api.Term{{}}}, fn("", fn("a"))} {
		g, h := f, f
		g.L, h.R = wrong, wrong
		is(t, g, api.ErrArg)
		is(t, h, api.ErrArg)
		is(t, iff(h, yes()), api.ErrArg)
	}
}

// P1302: a kind that is none, whatever else is right.
func TestRightNoKind(t *testing.T) {
	for _, kind := range []int{0, -1, 11, 12, 99, math.MaxInt, math.MinInt, math.MinInt + 1, 1 << 32, 1<<32 + 1} {
		for kids := range 3 {
			f := of(kind, "", slices.Repeat([]api.Formula{yes()}, kids)...)
			is(t, f, api.ErrArg)
			is(t, not(f), api.ErrArg)
			f.L, f.R = fn("a"), fn("b")
			is(t, f, api.ErrArg)
		}
	}
	is(t, api.Formula{}, api.ErrArg)
}

// P1302: atoms, and what is none.
func TestRightAtoms(t *testing.T) {
	a, x, truth := fn("a"), fn("X"), fn("$true")
	long := strings.Repeat("n", 63)
	for _, f := range []api.Formula{
		eq(a, a), eq(x, x), eq(a, x), eq(fn("f", x, fn("g", x)), a), eq(fn("it's"), fn(" ")), eq(fn("=>"), fn("'")), eq(fn(long), fn("X"+long[1:])), eq(fn("f", a), fn("f")),
		pred("p"), pred("p", a, x), pred("a b"), pred("'"), pred(long), pred("p", fn("p", fn("p"))), pred("p", fn(long, x)),
		eq(fn("@p"), api.Term{Fn: "$true", Args: []api.Term{}}), eq(api.Term{Fn: "X", Args: []api.Term{}}, a),
	} {
		is(t, f, api.OK)
		is(t, not(f), api.OK)
	}
	wrong := []api.Term{
		{}, {Var: 1}, {Var: 0, Args: []api.Term{a}}, {Var: 1, Fn: "a"}, {Var: -1, Fn: "X"}, {Var: math.MinInt, Fn: "a", Args: []api.Term{a}},
		fn("X", a), fn("$true"), fn("$false"), fn("$true", a), fn("$s0_1"), fn("@p"), fn("@p", a), fn("@"), fn("Xé"), fn("é"), fn("a\n"), fn("a\x7f"), fn("\x00"), fn("X y"), fn("@@p"),
		fn(long + "n"), fn("X" + long), fn("f", fn("X", a)), fn("f", api.Term{}), fn("f", a, fn("g", api.Term{Var: 2})), fn("f", truth), fn("f", fn("@p")), fn("f", a, fn("$true")),
	}
	for _, one := range wrong {
		for _, f := range []api.Formula{eq(one, a), eq(a, one), eq(x, one), eq(one, one), pred("p", one), pred("p", a, one), pred("p", fn("f", one))} {
			if one.Fn == "@p" && raw(f) == raw(eq(one, truth)) {
				continue
			}
			is(t, f, api.ErrArg)
			is(t, exists("X", and(yes(), f)), api.ErrArg)
		}
	}
	for _, f := range []api.Formula{
		eq(a, truth), eq(x, truth), eq(truth, truth), eq(truth, fn("@p")), eq(fn("@p"), a), eq(fn("@p"), fn("@p")), eq(fn("@p"), fn("$false")), eq(fn("@p"), fn("$true", a)),
		eq(fn("@p"), api.Term{Var: 1, Fn: "$true"}), eq(fn("@p"), api.Term{}), eq(api.Term{Var: 1, Fn: "@p"}, truth), eq(fn("@"), truth), eq(fn("@X"), truth), eq(fn("@$p"), truth), eq(fn("@@p"), truth),
		eq(fn("@"+long+"n"), truth), eq(fn("@é"), truth), eq(fn("@p\n"), truth), eq(fn("@p", truth), truth), eq(fn("@$d0_1"), truth), eq(fn("$s0_0"), a), eq(api.Term{}, api.Term{}),
	} {
		is(t, f, api.ErrArg)
		is(t, not(f), api.ErrArg)
	}
}

// P1302: the limits, and one beyond each.
func TestRightLimits(t *testing.T) {
	a := fn("a")
	for count := range 40 {
		want := api.OK
		if count > 16 {
			want = api.ErrBig
		}
		wide := fn("f", argsOf(count)...)
		for _, f := range []api.Formula{
			pred("p", argsOf(count)...), eq(wide, a), eq(a, wide), pred("p", a, wide), not(pred("p", fn("g", wide, a))),
			forAll("X", imp(yes(), eq(fn("f", fn("f", a, wide)), a))), or(eq(wide, wide), no()),
		} {
			is(t, f, want)
		}
	}
	for size := 3980; size < 4020; size++ {
		want := api.OK
		if size > 4000 {
			want = api.ErrBig
		}
		is(t, sized(size), want)
		is(t, clauseSized(size, fn("X")), want)
	}
	for depth := 50; depth < 70; depth++ {
		want := api.OK
		if depth > 60 {
			want = api.ErrDeep
		}
		nots, alls, ands, imps := yes(), yes(), no(), yes()
		for range depth - 1 {
			nots, alls, ands, imps = not(nots), forAll("X", alls), and(ands, yes()), imp(yes(), imps)
		}
		for _, f := range []api.Formula{
			nots, alls, ands, imps, eq(deep(depth-2, a), a), eq(a, deep(depth-2, fn("X"))), pred("p", a, deep(depth-3, a)), not(pred("p", deep(depth-4, a))), exists("X", eq(a, deep(depth-3, a))),
		} {
			if Depth(f) != depth {
				t.Fatalf("depth %d, not %d", Depth(f), depth)
			}
			is(t, f, want)
		}
	}
}

// P1302: ErrArg comes ahead of ErrBig, that ahead of ErrDeep, wherever each stands.
func TestRightOrder(t *testing.T) {
	wrong := []api.Formula{{}, not(api.Formula{}), eq(fn("a"), api.Term{}), forAll("x", yes()), pred("p", fn("$true"))}
	great := []api.Formula{sized(4000), pred("p", argsOf(17)...), eq(fn("a"), fn("f", argsOf(30)...))}
	lofty := []api.Formula{eq(deep(59, fn("a")), fn("a")), pred("p", deep(70, fn("a")))}
	for _, g := range great {
		is(t, and(g, yes()), api.ErrBig)
		for _, l := range lofty {
			is(t, not(l), api.ErrDeep)
			is(t, or(g, l), api.ErrBig)
			is(t, or(l, g), api.ErrBig)
			for _, w := range wrong {
				is(t, w, api.ErrArg)
				for _, list := range [][3]api.Formula{{w, g, l}, {w, l, g}, {g, w, l}, {g, l, w}, {l, w, g}, {l, g, w}} {
					is(t, and(list[0], and(list[1], list[2])), api.ErrArg)
				}
			}
		}
	}
	both := pred("p", append(argsOf(17), deep(80, fn("a")))...)
	is(t, both, api.ErrBig)
	is(t, pred("p", append(argsOf(17), deep(80, fn("A", fn("a"))))...), api.ErrArg)
}

// faults: the words of P1302, one by one, of all parts of the formula.
func faults(f api.Formula) (arg, wide bool, size, depth int) {
	count, known := kinds()[f.Kind]
	arg = !known || len(f.Kids) != count
	quantifier := f.Kind == api.FAll || f.Kind == api.FEx
	arg = arg || quantifier && !variableName(f.Name) || !quantifier && f.Name != ""
	size, depth = 1, 0
	predicate := f.Kind == api.FAtom && strings.HasPrefix(f.L.Fn, "@")
	if f.Kind != api.FAtom {
		arg = arg || f.L.Var != 0 || f.L.Fn != "" || len(f.L.Args) > 0 || f.R.Var != 0 || f.R.Fn != "" || len(f.R.Args) > 0
	} else {
		l, r := f.L, f.R
		if predicate {
			arg = arg || r.Fn != "$true" || len(r.Args) > 0 || variableName(l.Fn[1:])
			l.Fn, r.Fn = l.Fn[1:], "true"
		}
		for _, side := range []api.Term{l, r} {
			a, w, s, d := termFaults(side)
			arg, wide, size, depth = arg || a, wide || w, size+s, max(depth, d)
		}
	}
	for _, kid := range f.Kids {
		a, w, s, d := faults(kid)
		arg, wide, size, depth = arg || a, wide || w, size+s, max(depth, d)
	}
	return arg, wide, size, depth + 1
}

func termFaults(t api.Term) (arg, wide bool, size, depth int) {
	arg = t.Var != 0 || !(variableName(t.Fn) && len(t.Args) == 0 || properName(t.Fn))
	wide, size = len(t.Args) > 16, 1
	for _, one := range t.Args {
		a, w, s, d := termFaults(one)
		arg, wide, size, depth = arg || a, wide || w, size+s, max(depth, d)
	}
	return arg, wide, size, depth + 1
}

func variableName(s string) bool {
	return s != "" && len(s) < 64 && isCapital(s) && strings.Trim(s, "abcdefghijklmnopqrstuvwxyzABCDEFGHIJKLMNOPQRSTUVWXYZ_0123456789") == ""
}

func properName(s string) bool {
	return s != "" && len(s) < 64 && !isCapital(s) && s[0] != '@' && s[0] != '$' && !strings.ContainsFunc(s, func(r rune) bool { return r < 0x20 || r > 0x7e })
}

// P1302: formulas by chance, most of which have faults here and there.
func TestRightChance(t *testing.T) {
	m := newMaker(133)
	m.open = true
	counts := map[api.Errno]int{}
	for range 100000 {
		f := m.formula(1 + m.Intn(5))
		for range m.Intn(3) {
			m.break1(&f)
		}
		arg, wide, size, depth := faults(f)
		want := api.OK
		switch {
		case arg:
			want = api.ErrArg
		case wide || size > 4000:
			want = api.ErrBig
		case depth > 60:
			want = api.ErrDeep
		}
		counts[want]++
		if got := Right(f); got != want {
			t.Fatalf("Right of %.500s: %d, not %d", raw(f), int(got), int(want))
		}
		if !arg && (Size(f) != size || Depth(f) != depth) {
			t.Fatalf("Size, Depth of %.500s: %d, %d, not %d, %d", raw(f), Size(f), Depth(f), size, depth)
		}
		if text := Show(f); (text != "") != (want == api.OK) {
			t.Fatalf("Show of %.500s: %.200q", raw(f), text)
		}
	}
	for _, err := range []api.Errno{api.OK, api.ErrArg, api.ErrBig, api.ErrDeep} {
		if counts[err] < 500 {
			t.Errorf("only %d of the formulas had %d", counts[err], int(err))
		}
	}
}

// break1: one thing of one part of the formula is another one, wrong or not.
func (m maker) break1(f *api.Formula) {
	for len(f.Kids) > 0 && m.Intn(3) > 0 {
		f = &f.Kids[m.Intn(len(f.Kids))]
	}
	one := &f.L
	if m.Intn(2) == 0 {
		one = &f.R
	}
	for len(one.Args) > 0 && m.Intn(3) > 0 {
		one = &one.Args[m.Intn(len(one.Args))]
	}
	switch m.Intn(9) {
	case 0:
		f.Kind = m.Intn(13) - 1
	case 1:
		f.Name = pick(m, []string{"", "X", "x", "X y", "@", "Y9"})
	case 2:
		f.Kids = append(slices.Clone(f.Kids), yes())
	case 3:
		f.Kids = f.Kids[:len(f.Kids)/2]
	case 4:
		one.Var = m.Intn(3) - 1
	case 5:
		one.Fn = pick(m, []string{"", "X", "a", "$true", "@p", "@", "@X", "@$", "a\n", "b c", "X y"})
	case 6:
		one.Args = append(slices.Clone(one.Args), argsOf(m.Intn(20))...)
	case 7:
		*one = deep(40+m.Intn(30), *one)
	case 8:
		one.Args = append(slices.Clone(one.Args), slices.Repeat([]api.Term{fn("f", slices.Repeat([]api.Term{fn("f", argsOf(16)...)}, 16)...)}, 14+m.Intn(3))...)
	}
}

// P1302: Size and Depth.
func TestSizeDepth(t *testing.T) {
	a, x := fn("a"), fn("X")
	for _, c := range []struct {
		f           api.Formula
		size, depth int
	}{
		{yes(), 1, 1}, {no(), 1, 1}, {not(yes()), 2, 2}, {pred("p"), 3, 2}, {pred("p", a), 4, 3}, {pred("p", a, fn("f", x)), 6, 4}, {eq(a, x), 3, 2}, {not(eq(a, x)), 4, 3},
		{eq(fn("f", a), fn("g", a, fn("f", a))), 7, 4}, {eq(fn("g", a, fn("f", a)), a), 6, 4}, {forAll("X", yes()), 2, 2}, {exists("X", pred("p", x)), 5, 4}, {and(yes(), not(no())), 4, 3},
		{or(not(not(no())), pred("p")), 7, 4}, {imp(forAll("X", forAll("Y", pred("p", x))), pred("q")), 10, 6}, {iff(yes(), and(yes(), or(no(), yes()))), 7, 4},
	} {
		if size, depth := Size(c.f), Depth(c.f); size != c.size || depth != c.depth {
			t.Errorf("%s: %d, %d, not %d, %d", raw(c.f), size, depth, c.size, c.depth)
		}
	}
	for size := 1; size < 6000; size += 7 {
		if got := Size(sized(size)); got != size {
			t.Errorf("Size: %d, not %d", got, size)
		}
	}
}

// P1302: the names of free variables.
func TestFree(t *testing.T) {
	v := func(names ...string) api.Formula {
		var args []api.Term
		for _, name := range names {
			args = append(args, fn(name))
		}
		return pred("p", args...)
	}
	for _, c := range []struct {
		f    api.Formula
		want string
	}{
		{yes(), ""}, {pred("p"), ""}, {eq(fn("a"), fn("b")), ""}, {v("X"), "X"}, {eq(fn("Y"), fn("X")), "X Y"}, {v("Z", "X", "Y", "X", "Z"), "X Y Z"}, {pred("p", fn("f", fn("a"), fn("g", fn("X")))), "X"},
		{v("B", "Aa", "A", "A_", "AB", "A0", "Z", "A00"), "A A0 A00 AB A_ Aa B Z"}, {v("X10", "X9", "X1", "X"), "X X1 X10 X9"},
		{forAll("X", v("X")), ""}, {exists("X", v("X")), ""}, {forAll("X", v("Y")), "Y"}, {forAll("X", v("Y", "X")), "Y"}, {forAll("X", yes()), ""},
		{and(forAll("X", v("X")), v("X")), "X"}, {and(v("X"), forAll("X", v("X"))), "X"}, {forAll("X", and(v("X"), exists("X", v("X")))), ""}, {forAll("X", and(exists("X", v("X")), v("X"))), ""},
		{and(forAll("X", exists("X", v("X"))), v("X")), "X"}, {forAll("X", imp(exists("Y", v("X", "Y")), v("Y"))), "Y"}, {not(not(v("X"))), "X"}, {iff(v("Z"), or(v("Y"), v("X"))), "X Y Z"},
		{forAll("X", v("Xy", "x")), "Xy"}, {forAll("Y", forAll("X", or(v("Z"), eq(fn("X"), fn("W"))))), "W Z"},
	} {
		if got := strings.Join(Free(c.f), " "); got != c.want {
			t.Errorf("%s: %s, not %s", raw(c.f), got, c.want)
		}
	}
}

// P1302: Free against its words: a variable is free where no name around it is its own.
func TestFreeChance(t *testing.T) {
	m := newMaker(134)
	m.open = true
	several := 0
	for range 20000 {
		f := m.formula(1 + m.Intn(6))
		var want []string
		var look func(f api.Formula, around []string)
		look = func(f api.Formula, around []string) {
			var terms func(list ...api.Term)
			terms = func(list ...api.Term) {
				for _, one := range list {
					if variableName(one.Fn) && !slices.Contains(around, one.Fn) && !slices.Contains(want, one.Fn) {
						want = append(want, one.Fn)
					}
					terms(one.Args...)
				}
			}
			terms(f.L, f.R)
			if f.Name != "" {
				around = append(slices.Clone(around), f.Name)
			}
			for _, kid := range f.Kids {
				look(kid, around)
			}
		}
		look(f, nil)
		slices.Sort(want)
		if got := Free(f); !slices.Equal(got, want) {
			t.Fatalf("%s: %q, not %q", raw(f), got, want)
		}
		if len(want) > 1 {
			several++
		}
	}
	if several < 5000 {
		t.Errorf("only %d had several", several)
	}
}

// P1302: Same tells each field, and takes lists that are nil and lists that are empty as one.
func TestSame(t *testing.T) {
	a, x := fn("a"), fn("X")
	list := []api.Formula{
		{}, {Kind: 1}, {Kind: 99}, {Name: "X"}, {L: a}, {R: a}, {L: a, R: a}, {L: api.Term{Var: 1}}, {Kids: []api.Formula{{}}}, {Kids: []api.Formula{{}, {}}},
		yes(), no(), pred("p"), pred("q"), pred("p", a), pred("p", x), pred("p", a, a), pred("p", fn("f", a)), eq(a, x), eq(x, a), not(eq(a, x)), not(not(eq(a, x))),
		and(yes(), no()), and(no(), yes()), or(yes(), no()), imp(yes(), no()), iff(yes(), no()), forAll("X", yes()), forAll("Y", yes()), exists("X", yes()), forAll("X", no()),
		and(and(yes(), yes()), yes()), and(yes(), and(yes(), yes())), forAll("X", pred("p", x)), forAll("Y", pred("p", fn("Y"))), sized(100), sized(101), of(3, "", yes()), of(3, "", yes(), no(), yes()),
	}
	for i, f := range list {
		for j, g := range list {
			if got := Same(f, g); got != (i == j) {
				t.Errorf("Same of %s and %s: %v", raw(f), raw(g), got)
			}
		}
	}
	empty := api.Formula{Kind: 1, L: api.Term{Fn: "a", Args: []api.Term{}}, R: a, Kids: []api.Formula{}}
	if !Same(empty, eq(a, a)) || !Same(eq(a, a), empty) {
		t.Error("empty lists are not nil ones")
	}
	m := newMaker(135)
	m.open = true
	for range 5000 {
		f := m.formula(1 + m.Intn(4))
		g := copied(f)
		if !Same(f, g) || !Same(g, f) {
			t.Fatalf("%s is not the same", raw(f))
		}
		m.break1(&g)
		if got := Same(f, g); got != (raw(f) == raw(g)) || Same(g, f) != got {
			t.Fatalf("Same of %.300s and %.300s: %v", raw(f), raw(g), got)
		}
	}
}

// copied: the formula in new memory.
func copied(f api.Formula) api.Formula {
	var terms func(list []api.Term) []api.Term
	terms = func(list []api.Term) []api.Term {
		list = slices.Clone(list)
		for i := range list {
			list[i].Args = terms(list[i].Args)
		}
		return list
	}
	f.L.Args, f.R.Args, f.Kids = terms(f.L.Args), terms(f.R.Args), slices.Clone(f.Kids)
	for i := range f.Kids {
		f.Kids[i] = copied(f.Kids[i])
	}
	return f
}

// Rules 4 and 5: what is handed in is not changed, its spare room neither; asked twice, the answer is one.
func TestLooksLeave(t *testing.T) {
	m := newMaker(136)
	for range 3000 {
		f := m.formula(1 + m.Intn(5))
		roomy(&f)
		before := whole(f)
		names, text, canon := Free(f), Show(f), Canon(f)
		Right(f)
		Size(f)
		Depth(f)
		Same(f, f)
		alone(t, canon)
		for i := range names[:cap(names)] {
			names[:cap(names)][i] = "spoilt"
		}
		want := raw(canon)
		spoil(&canon, func(string) {})
		if whole(f) != before || Show(f) != text || raw(Canon(f)) != want {
			t.Fatalf("%s was changed", before)
		}
	}
}

// roomy: all lists get spare room with something in it.
func roomy(f *api.Formula) {
	var term func(one *api.Term)
	term = func(one *api.Term) {
		for i := range one.Args {
			term(&one.Args[i])
		}
		one.Args = append(slices.Clone(one.Args), fn("spare"), fn("spare"))[:len(one.Args)]
	}
	term(&f.L)
	term(&f.R)
	for i := range f.Kids {
		roomy(&f.Kids[i])
	}
	f.Kids = append(slices.Clone(f.Kids), pred("spare"), pred("spare"))[:len(f.Kids)]
}

// whole: a formula as a text, with what stands in the spare room of its lists.
func whole(f api.Formula) string {
	var term func(one api.Term) api.Term
	term = func(one api.Term) api.Term {
		one.Args = slices.Clone(one.Args[:cap(one.Args)])
		for i := range one.Args {
			one.Args[i] = term(one.Args[i])
		}
		return one
	}
	var all func(f api.Formula) api.Formula
	all = func(f api.Formula) api.Formula {
		f.L, f.R, f.Kids = term(f.L), term(f.R), slices.Clone(f.Kids[:cap(f.Kids)])
		for i := range f.Kids {
			f.Kids[i] = all(f.Kids[i])
		}
		return f
	}
	return raw(all(f))
}

// Rule 1: formulas with very many parts within one another.
func TestLooksGreat(t *testing.T) {
	const n = 1 << 16
	nots, alls, chain := yes(), pred("p", fn("X"), fn("Y")), pred("p")
	for range n {
		nots, alls, chain = not(nots), forAll("X", alls), and(chain, pred("p"))
	}
	tower := eq(deep(n, fn("X")), fn("a"))
	for _, f := range []api.Formula{nots, alls, chain, tower} {
		is(t, f, api.ErrBig)
		if Show(f) != "" || raw(Canon(f)) != raw(no()) || !Same(f, f) || Size(f) <= n || Depth(f) <= n {
			t.Error("a very deep formula")
		}
	}
	if got := Free(alls); !slices.Equal(got, []string{"Y"}) {
		t.Errorf("Free: %q", got)
	}
	if got := Free(tower); !slices.Equal(got, []string{"X"}) {
		t.Errorf("Free: %q", got)
	}
	if got, want := Size(chain), 4*n+3; got != want {
		t.Errorf("Size: %d, not %d", got, want)
	}
	wide := pred("p", argsOf(1<<20)...)
	is(t, wide, api.ErrBig)
	if Size(wide) != 1<<20+3 || Depth(wide) != 3 {
		t.Error("a very wide formula")
	}
}
