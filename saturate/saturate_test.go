package saturate

import (
	"fmt"
	"math"
	"strconv"
	"strings"
	"testing"

	"assize/api"
	"assize/kbo"
)

// P1801: what New refuses, at each edge, and what it takes beside it.
func TestNew(t *testing.T) {
	named := func(count int) kbo.Sign {
		var g kbo.Sign
		for i := range count {
			g.Names = append(g.Names, "n"+strconv.Itoa(i))
		}
		return g
	}
	in := func(name string, index int, c api.Clause) []Input {
		return []Input{{Name: "first", C: of(atom(fn("@p")))}, {Name: name, Index: index, C: c}}
	}
	p, good := of(atom(fn("@p"))), Strategy{Ratio: 1}
	for _, one := range []struct {
		what           string
		g              kbo.Sign
		st             Strategy
		clauses, nodes int
		l              []Input
		errno          api.Errno
	}{
		{"nothing to begin with", kbo.Sign{}, good, 1, 1, nil, api.OK},
		{"the greatest of all", named(200), Strategy{true, true, 1000}, api.MaxSteps, 1000000, in(strings.Repeat("n", api.MaxName), api.MaxClauses, p), api.OK},
		{"201 names", named(201), good, 1, 1, nil, api.ErrArg},
		{"a name that stands twice", sign("a a"), good, 1, 1, nil, api.ErrArg},
		{"$true as a name", sign("$true"), good, 1, 1, nil, api.ErrArg},
		{"a name without bytes", kbo.Sign{Names: []string{""}}, good, 1, 1, nil, api.ErrArg},
		{"a weight of 0", kbo.Sign{Names: []string{"a"}, Weights: []int{0}}, good, 1, 1, nil, api.ErrArg},
		{"more weights than names", kbo.Sign{Weights: []int{1}}, good, 1, 1, nil, api.ErrArg},
		{"ratio 0", kbo.Sign{}, Strategy{}, 1, 1, nil, api.ErrArg},
		{"ratio 1001", kbo.Sign{}, Strategy{Ratio: 1001}, 1, 1, nil, api.ErrArg},
		{"the least ratio", kbo.Sign{}, Strategy{Ratio: math.MinInt}, 1, 1, nil, api.ErrArg},
		{"the greatest ratio", kbo.Sign{}, Strategy{Ratio: math.MaxInt}, 1, 1, nil, api.ErrArg},
		{"no clauses", kbo.Sign{}, good, 0, 1, nil, api.ErrArg},
		{"clauses below 0", kbo.Sign{}, good, -1, 1, nil, api.ErrArg},
		{"too many clauses", kbo.Sign{}, good, api.MaxSteps + 1, 1, nil, api.ErrArg},
		{"no nodes", kbo.Sign{}, good, 1, 0, nil, api.ErrArg},
		{"nodes below 0", kbo.Sign{}, good, 1, math.MinInt, nil, api.ErrArg},
		{"too many nodes", kbo.Sign{}, good, 1, 1000001, nil, api.ErrArg},
		{"a name too long", kbo.Sign{}, good, 9, 9, in(strings.Repeat("n", api.MaxName+1), 0, p), api.ErrArg},
		{"a name of other bytes", kbo.Sign{}, good, 9, 9, in("\xff\x00", 0, p), api.OK},
		{"no name", kbo.Sign{}, good, 9, 9, in("", 0, p), api.OK},
		{"an index below 0", kbo.Sign{}, good, 9, 9, in("a", -1, p), api.ErrArg},
		{"an index too great", kbo.Sign{}, good, 9, 9, in("a", api.MaxClauses+1, p), api.ErrArg},
		{"the empty clause", kbo.Sign{}, good, 9, 9, in("a", 0, nil), api.OK},
		{"60 literals", kbo.Sign{}, good, 9, 9, in("a", 0, many(api.MaxLits, p[0])), api.OK},
		{"61 literals", kbo.Sign{}, good, 9, 9, in("a", 0, many(api.MaxLits+1, p[0])), api.ErrArg},
		{"4000 parts", kbo.Sign{}, good, 9, 9, in("a", 0, of(yes(flat(api.MaxNodes-1, v(0)), fn("a")))), api.OK},
		{"4001 parts", kbo.Sign{}, good, 9, 9, in("a", 0, of(yes(flat(api.MaxNodes, v(0)), fn("a")))), api.ErrArg},
		{"60 deep", kbo.Sign{}, good, 9, 9, in("a", 0, of(yes(chain(api.MaxDepth, v(0)), fn("a")))), api.OK},
		{"61 deep", kbo.Sign{}, good, 9, 9, in("a", 0, of(yes(chain(api.MaxDepth+1, v(0)), fn("a")))), api.ErrArg},
		{"a variable below 0", kbo.Sign{}, good, 9, 9, in("a", 0, of(yes(v(-1), fn("a")))), api.ErrArg},
		{"the greatest variable", kbo.Sign{}, good, 9, 9, in("a", 0, of(yes(v(api.MaxVar-1), fn("a")))), api.OK},
		{"a variable too great", kbo.Sign{}, good, 9, 9, in("a", 0, of(yes(v(api.MaxVar), fn("a")))), api.ErrArg},
		{"a truth beside a thing", kbo.Sign{}, good, 9, 9, in("a", 0, read(t, "@p=a")), api.ErrArg},
		{"a truth as an argument", kbo.Sign{}, good, 9, 9, in("a", 0, read(t, "@p(f(@q))")), api.ErrArg},
		{"a variable beside $true", kbo.Sign{}, good, 9, 9, in("a", 0, read(t, "X0=$true")), api.ErrArg},
	} {
		e, errno := New(one.g, one.st, one.clauses, one.nodes, one.l)
		if errno != one.errno || (e == nil) != (errno != api.OK) {
			t.Errorf("%s: %v, %v", one.what, e != nil, errno)
		}
	}
}

// P1801: a new engine is running, and has its inputs neither in records nor among its clauses; they come in order, by normal names.
func TestNewInputs(t *testing.T) {
	l := []Input{{Name: "b", Index: 7, C: read(t, "@p(X9) | @q(X3,X9)")}, {Name: "", Index: 0, C: read(t, "@p(a)")}, {Name: "b", Index: 7, C: read(t, "@r | @r")}}
	e := begun(t, sign("a"), Strategy{Ratio: 1}, l)
	clauses, nodes := e.Count()
	wantText(t, "a new engine", fmt.Sprint(e.Status(), clauses, nodes, len(e.Active()), len(e.Passive()), len(e.Proof())), "0 0 0 0 0 0")
	for range l {
		e.Step()
	}
	var steps []api.Step
	for _, r := range e.records {
		steps = append(steps, r.Step)
	}
	wantText(t, "records", saySteps(steps), "b 7 @p(X0) | @q(X1,X0);  0 @p(a); b 7 @r | @r; clean 2 @r")
	wantText(t, "passive", sayAll(e.Passive()), "@p(X0) | @q(X1,X0); @p(a); @r")
}

// traced: what each step changes: the new records, then, where they changed, the active and the passive clauses, then the status, if it is not Running.
func traced(e *Engine, most int) string {
	var list []string
	active, passive := "", ""
	for range most {
		from := len(e.records)
		status := e.Step()
		told := []string{}
		for _, r := range e.records[from:] {
			told = append(told, sayStep(r.Step))
		}
		if now := sayAll(e.Active()); now != active {
			active = now
			told = append(told, "active: "+now)
		}
		if now := sayAll(e.Passive()); now != passive {
			passive = now
			told = append(told, "passive: "+now)
		}
		if status != Running {
			told = append(told, "status "+strconv.Itoa(status))
		}
		list = append(list, strings.Join(told, " / "))
		if status != Running {
			break
		}
	}
	return strings.Join(list, "\n")
}

// P1802: the whole of some searches, step by step, by hand.
func TestStep(t *testing.T) {
	for _, one := range []struct {
		names, in string
		st        Strategy
		want      string
	}{
		{"", "@p; ~@p | @q; ~@q", Strategy{Ratio: 2}, `
in 0 @p / passive: @p
in 1 ~@p | @q / passive: @p; ~@p | @q
in 2 ~@q / passive: @p; ~@p | @q; ~@q
active: @p / passive: ~@p | @q; ~@q
sup 0.0L into 0.0L [] {}{} $true=$true
active: @p; ~@q / passive: ~@p | @q
demod 1.0L [] by 0.0L {}{} $true!=$true | @q / clean 4 @q / active: @p; ~@q; @q / passive: 
sup 5.0L into 2.0L [] {}{} $true!=$true / clean 6 0 / status 1`},
		{"a b f", "f(a)=b; b=a; @p(f(b)); ~@p(a)", Strategy{Ratio: 3}, `
in 0 f(a)=b / passive: f(a)=b
in 1 b=a / passive: f(a)=b; b=a
in 2 @p(f(b)) / passive: f(a)=b; b=a; @p(f(b))
in 3 ~@p(a) / passive: f(a)=b; b=a; @p(f(b)); ~@p(a)
active: b=a / passive: f(a)=b; @p(f(b)); ~@p(a)
sup 1.0L into 1.0L [] {}{} a=a
demod 0.0R [] by 1.0L {}{} f(a)=a / active: b=a; f(a)=a / passive: @p(f(b)); ~@p(a)
sup 5.0L into 5.0L [] {}{} a=a
active: b=a; f(a)=a; ~@p(a) / passive: @p(f(b))
demod 2.0L [0 0] by 1.0L {}{} @p(f(a)) / demod 7.0L [0] by 5.0L {}{} @p(a) / active: b=a; f(a)=a; ~@p(a); @p(a) / passive: 
sup 8.0L into 3.0L [] {}{} $true!=$true / clean 9 0 / status 1`},
		// a tautology, a clause that an active one subsumes, and a clause that an input makes needless
		{"", "@p; @q | ~@q; @p(a); @p(X0) | @p(X1); @p | @r", Strategy{Ratio: 1000}, `
in 0 @p / passive: @p
in 1 @q | ~@q
in 2 @p(a) / passive: @p; @p(a)
in 3 @p(X0) | @p(X1) / passive: @p; @p(a); @p(X0) | @p(X1)
in 4 @p | @r / passive: @p; @p(a); @p(X0) | @p(X1); @p | @r
active: @p / passive: @p(a); @p(X0) | @p(X1); @p | @r
sup 0.0L into 0.0L [] {}{} $true=$true
active: @p; @p(a) / passive: @p(X0) | @p(X1); @p | @r
sup 2.0L into 2.0L [] {}{} $true=$true
passive: @p(X0) | @p(X1)`},
	} {
		e := begun(t, sign(one.names), one.st, inputs(t, one.in))
		wantText(t, one.in, traced(e, strings.Count(one.want, "\n")), one.want[1:])
	}
}

// P1802: a status that is not Running stays, and so does all else.
func TestStepStays(t *testing.T) {
	for in, want := range map[string]int{"@p; ~@p": Proved, "@p": Saturated, "@p(a); @p(b); @p(c); @p(d); @p(e)": Out} {
		e, _ := New(kbo.Sign{}, Strategy{Ratio: 2}, 5, 100, inputs(t, in))
		run(e, 50)
		was := looks(e)
		if e.Status() != want {
			t.Errorf("%s: %s", in, was)
		}
		for range 5 {
			if got := e.Step(); got != want || looks(e) != was {
				t.Errorf("%s: Step %d, %s, not %s", in, got, looks(e), was)
			}
		}
	}
}

// weighty: an input @p<number> of that many arguments a, which takes part in nothing.
func weighty(number, args int) Input {
	return Input{Index: number, C: of(api.Lit{Neg: true, L: fn("@p"+strconv.Itoa(number), many(args, fn("a"))...), R: fn("$true")})}
}

// picks: in which order inputs of these weights, the oldest first, are picked.
func picks(t *testing.T, ratio int, weights ...int) string {
	t.Helper()
	var l []Input
	for i, args := range weights {
		l = append(l, weighty(i, args))
	}
	e := begun(t, kbo.Sign{}, Strategy{Ratio: ratio}, l)
	run(e, 1000)
	var list []string
	for _, c := range e.Active() {
		list = append(list, strings.TrimPrefix(c[0].L.Fn, "@p"))
	}
	if e.Status() != Saturated {
		t.Errorf("status %d", e.Status())
	}
	return strings.Join(list, " ")
}

// P1802: behind each so many picks of the lightest, the first of these, one of the oldest.
func TestPick(t *testing.T) {
	for _, one := range []struct {
		ratio   int
		weights []int
		want    string
	}{
		{1, []int{9, 8, 7, 6, 5, 4, 3, 2}, "7 0 6 1 5 2 4 3"},
		{2, []int{9, 8, 7, 6, 5, 4, 3, 2}, "7 6 0 5 4 1 3 2"},
		{3, []int{9, 8, 7, 6, 5, 4, 3, 2}, "7 6 5 0 4 3 2 1"},
		{7, []int{9, 8, 7, 6, 5, 4, 3, 2}, "7 6 5 4 3 2 1 0"},
		{6, []int{9, 8, 7, 6, 5, 4, 3, 2}, "7 6 5 4 3 2 0 1"},
		{1000, []int{3, 1, 2, 1, 3, 0, 2, 1}, "5 1 3 7 2 6 0 4"},
		{1, []int{3, 1, 2, 1, 3, 0, 2, 1}, "5 0 1 2 3 4 7 6"},
		{2, []int{4, 4, 4, 4}, "0 1 2 3"},
	} {
		wantText(t, fmt.Sprint("ratio ", one.ratio, " of ", one.weights), picks(t, one.ratio, one.weights...), one.want)
	}
}

// P1802: a pick counts, also where the clause is dropped behind it.
func TestPickDropped(t *testing.T) {
	var l []Input
	for i, args := range []int{1, 9, 8, 7, 6, 5} {
		l = append(l, weighty(i, args))
	}
	again := weighty(0, 1)
	l = append(l, again, again)
	e := begun(t, kbo.Sign{}, Strategy{Ratio: 3}, l)
	run(e, 100)
	var list []string
	for _, c := range e.Active() {
		list = append(list, strings.TrimPrefix(c[0].L.Fn, "@p"))
	}
	// the lightest: 0, and twice 0 again; then the oldest: 1
	wantText(t, "active", strings.Join(list, " "), "0 1 5 4 3 2")
}

// P1802: the lightest goes by lits.Size, not by weights of the signature.
func TestPickSize(t *testing.T) {
	g := kbo.Sign{Names: []string{"b", "c"}, Weights: []int{50, 1}}
	e := begun(t, g, Strategy{Ratio: 1000}, inputs(t, "~@p(c,c); ~@q(b)"))
	run(e, 20)
	wantText(t, "active", sayAll(e.Active()), "~@q(b); ~@p(c,c)")
}

// recorded: what stands in the records from that one on.
func recorded(e *Engine, from int) string {
	var steps []api.Step
	for _, r := range e.records[from:] {
		steps = append(steps, r.Step)
	}
	return saySteps(steps)
}

// P1802: units rewrite in the order in which they became active, which is not that of their numbers.
func TestUnits(t *testing.T) {
	e := begun(t, sign("a b f h"), Strategy{Ratio: 1000}, inputs(t, "h(X0,X0)=f(X0); h(a,X0)=a; ~@p(h(a,a),a)"))
	run(e, 30)
	wantText(t, "active", sayAll(e.Active()), "h(a,X0)=a; h(X0,X0)=f(X0); f(a)=a; ~@p(a,a)")
	// h(a, a) becomes a by the second input, which was lighter, and would become f(a) by the first one
	wantText(t, "records", recorded(e, 3), "sup 1.0L into 1.0L [] {}{} a=a; sup 0.0L into 1.0L [] {0:a}{0:a} f(a)=a; sup 1.0L into 0.0L [] {0:a}{0:a} a=f(a); "+
		"sup 0.0L into 0.0L [] {}{} f(X0)=f(X0); sup 4.0L into 4.0L [] {}{} a=a; demod 2.0L [0] by 1.0L {}{0:a} ~@p(a,a)")
}

// P1802: what is passive, and what has more than one literal, or one that is Neg, rewrites nothing.
func TestUnitsActiveAlone(t *testing.T) {
	e := begun(t, sign("a b c d @p"), Strategy{Ratio: 1000}, inputs(t, "b!=a; c=a | @q(a,a); f(f(f(d)))=a; @p(b,c,f(f(f(d))))"))
	run(e, 4)
	wantText(t, "records", recorded(e, 4), "")
	wantText(t, "passive", sayAll(e.Passive()), "b!=a; c=a | @q(a,a); f(f(f(d)))=a; @p(b,c,f(f(f(d))))")
	for len(e.active) < 4 && e.Step() == Running {
	}
	wantText(t, "active", sayAll(e.Active()), "b!=a; f(f(f(d)))=a; c=a | @q(a,a); @p(b,c,a)")
}

// P1802: what is made small again behind what was rewritten: what stands twice then is gone, and what never holds.
func TestSmall(t *testing.T) {
	e := begun(t, sign("a b c f"), Strategy{Ratio: 1000}, inputs(t, "c=b; @q(c) | @q(b) | b!=c | @r(X7,c,X7) | @q(c)"))
	run(e, 4)
	wantText(t, "active", sayAll(e.Active()), "c=b")
	run(e, 1)
	var steps []api.Step
	for _, r := range e.records {
		steps = append(steps, r.Step)
	}
	want := "in 0 c=b; in 1 @q(c) | @q(b) | b!=c | @r(X0,c,X0) | @q(c); clean 1 @q(c) | @q(b) | b!=c | @r(X0,c,X0); sup 0.0L into 0.0L [] {}{} b=b; " +
		"demod 2.0L [0] by 0.0L {}{} @q(b) | @q(b) | b!=c | @r(X0,c,X0); demod 4.2R [] by 0.0L {}{} @q(b) | @q(b) | b!=b | @r(X0,c,X0); " +
		"demod 5.3L [1] by 0.0L {}{} @q(b) | @q(b) | b!=b | @r(X0,b,X0); clean 6 @q(b) | @r(X0,b,X0)"
	wantText(t, "records", saySteps(steps), want)
	wantText(t, "active", sayAll(e.Active()), "c=b; @q(b) | @r(X0,b,X0)")
}

// P1802: what the picked clause subsumes is active no more, and takes no part any more.
func TestSubsumed(t *testing.T) {
	e := begun(t, sign("@s b @p"), Strategy{Ratio: 1000}, inputs(t, "~@p(a); ~@r(b); ~@p(b); ~@p(X0); @p(b) | @s"))
	run(e, 5)
	var list []string
	for range 5 {
		e.Step()
		list = append(list, sayAll(e.Active()))
	}
	wantText(t, "active", strings.Join(list, "\n"), "~@p(a)\n~@p(a); ~@r(b)\n~@p(a); ~@r(b); ~@p(b)\n~@r(b); ~@p(X0)\n~@r(b); ~@p(X0); @p(b) | @s")
	wantText(t, "queue", saySteps(e.queue), "sup 4.0L into 3.0L [] {}{0:b} $true!=$true | @s; sup 4.0L into 4.0L [] {}{} $true=$true | @s | @s")
}

// P1802: a unit that is active no more does not rewrite.
func TestSubsumedUnit(t *testing.T) {
	e := begun(t, sign("a b f"), Strategy{Ratio: 1000}, inputs(t, "f(f(a))=a; ~@p(f(f(a)),a); f(f(X0))=X0"))
	run(e, 40)
	wantText(t, "records", recorded(e, 3), "sup 0.0L into 0.0L [] {}{} a=a; sup 2.0L into 2.0L [] {}{} X0=X0; sup 2.0L into 2.0L [0] {}{0:f(X0)} f(X0)=f(X0); demod 1.0L [0] by 2.0L {}{0:a} ~@p(a,a)")
}

// P1803: of nil.
func TestNil(t *testing.T) {
	var e *Engine
	clauses, nodes := e.Count()
	wantText(t, "nil", fmt.Sprint(e.Step(), e.Status(), e.Step(), clauses, nodes, len(e.Active()), len(e.Passive()), len(e.Proof())), "3 3 3 0 0 0 0 0")
}

// P1803: Count is of all records, also of those that are dropped.
func TestCount(t *testing.T) {
	e := begun(t, kbo.Sign{}, Strategy{Ratio: 1}, inputs(t, "@p(a); @q | ~@q; @p(X0) | @p(X0); @p(f(X0),b)=$true"))
	var list []string
	for range 4 {
		e.Step()
		clauses, nodes := e.Count()
		list = append(list, fmt.Sprint(clauses, " ", nodes))
	}
	wantText(t, "counts", strings.Join(list, ", "), "1 3, 2 7, 4 16, 5 21")
}

// P1803: a proof has the steps that the empty clause comes from alone, numbered anew, each parent ahead of what comes of it.
func TestProof(t *testing.T) {
	for _, one := range []struct {
		names, in string
		st        Strategy
		want      string
	}{
		{"", "0", Strategy{Ratio: 1}, "in 0 0"},
		{"", "@z; @p; 0", Strategy{Ratio: 1}, "in 2 0"},
		{"", "a!=a", Strategy{Ratio: 1}, "in 0 a!=a; clean 0 0"},
		{"", "@z(X0); @p(X0); ~@z(a) | @z(b); ~@p(X3)", Strategy{Ratio: 1000}, "in 1 @p(X0); in 3 ~@p(X0); demod 1.0L [] by 0.0L {}{} $true!=$true; clean 2 0"},
		{"", "X0!=a", Strategy{Ratio: 1}, "in 0 X0!=a; res 0.0 {0:a} 0"},
		{"", "@p(X0) | @p(X1); ~@p(X0) | ~@p(X1)", Strategy{Ratio: 1}, "in 0 @p(X0) | @p(X1); in 1 ~@p(X0) | ~@p(X1); fact 0.0L.1L {1:X0} @p(X0) | $true!=$true; clean 2 @p(X0); " +
			"sup 3.0L into 1.0L [] {}{1:X2} $true!=$true | ~@p(X0); clean 4 ~@p(X0); demod 5.0L [] by 3.0L {}{} $true!=$true; clean 6 0"},
	} {
		e := begun(t, sign(one.names), one.st, inputs(t, one.in))
		if len(e.Proof()) > 0 {
			t.Errorf("%s: a proof ahead of all steps", one.in)
		}
		run(e, 100)
		wantText(t, one.in, saySteps(e.Proof()), one.want)
	}
	for _, in := range []string{"@p", "@p | @q; ~@p"} {
		e := begun(t, kbo.Sign{}, Strategy{Ratio: 1}, inputs(t, in))
		run(e, 100)
		if e.Status() != Saturated || len(e.Proof()) > 0 {
			t.Errorf("%s: status %d, %s", in, e.Status(), saySteps(e.Proof()))
		}
	}
}

// P1802: all that follows comes into the queue in order: into each active clause and out of it, the picked one last; then what follows of it alone.
func TestFollow(t *testing.T) {
	e := begun(t, sign("@s a b c @p"), Strategy{Ratio: 1000}, inputs(t, "b=a | @s; ~@p(c) | @s; @p(b) | @p(X0)"))
	for len(e.active) < 3 {
		e.Step()
	}
	wantText(t, "active", sayAll(e.Active()), "b=a | @s; ~@p(c) | @s; @p(b) | @p(X0)")
	wantText(t, "queue", saySteps(e.queue), "sup 0.0L into 2.0L [0] {}{} @p(a) | @p(X0) | @s; sup 2.1L into 1.0L [] {0:c}{} $true!=$true | @s | @p(b); "+
		"sup 2.0L into 2.0L [] {}{0:X1} $true=$true | @p(X0) | @p(X1); sup 2.1L into 2.1L [] {}{} @p(b) | $true=$true | @p(b); "+
		"fact 2.0L.1L {0:b} @p(b) | $true!=$true; fact 2.1L.0L {0:b} @p(b) | $true!=$true")
	e = begun(t, kbo.Sign{}, Strategy{Ratio: 1000}, inputs(t, "f(f(f(X0)))!=f(f(f(X1))) | @p(X2) | @p(X3)"))
	run(e, 2)
	rules := ""
	for _, s := range e.queue {
		rules += strconv.Itoa(s.Rule)
	}
	wantText(t, "rules", rules, "2222344")
}

// P1802: the strategy's order and selection are what is inferred by.
func TestStrategy(t *testing.T) {
	for _, one := range []struct {
		names, in string
		st        Strategy
		want      string
	}{
		{"@a @p @q", "@p | @a; @q | @a; ~@p | ~@q | @a | @a | @a", Strategy{Ratio: 1000}, "@p | @a; @q | @a; ~@p | ~@q | @a / sup 1.0L into 3.1L [] {}{} ~@p | $true!=$true | @a | @a"},
		{"@a @p @q", "@p | @a; @q | @a; ~@p | ~@q | @a | @a | @a", Strategy{Sel: true, Ratio: 1000}, "@p | @a; @q | @a; ~@p | ~@q | @a / sup 0.0L into 3.0L [] {}{} $true!=$true | ~@q | @a | @a"},
		{"b g a f", "f(a)=g(b,b); ~@p(f(a),g(b,b))", Strategy{Ratio: 1000}, "f(a)=g(b,b); ~@p(f(a),f(a)) / "},
		{"b g a f", "f(a)=g(b,b); ~@p(f(a),g(b,b))", Strategy{Path: true, Ratio: 1000}, "f(a)=g(b,b); ~@p(g(b,b),g(b,b)) / "},
	} {
		e := begun(t, sign(one.names), one.st, inputs(t, one.in))
		for len(e.active) < strings.Count(one.in, ";")+1 {
			e.Step()
		}
		wantText(t, fmt.Sprintf("%+v", one.st), sayAll(e.Active())+" / "+saySteps(e.queue), one.want)
	}
}
