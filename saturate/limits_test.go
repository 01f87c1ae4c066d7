package saturate

import (
	"fmt"
	"strconv"
	"strings"
	"testing"

	"assize/api"
	"assize/kbo"
	"assize/lits"
)

// P1802, P1806: at a limit all is as it is far below it; one beyond it the search is Out, and has just what was allowed.
func TestLimits(t *testing.T) {
	in := "c=b; @q(c) | @q(b) | b!=c | @q(c); ~@r"
	for _, one := range []struct {
		clauses, nodes, steps int
		want                  string
	}{
		// the inputs have 2, 11 and 2 parts; of the second one a record of 8 is left
		{1, 2, 1, "0 1 2 c=b"},
		{1, 1, 1, "3 0 0 "},
		{1, 2, 2, "3 1 2 c=b"},
		{2, 100, 2, "3 2 13 c=b"},
		{3, 20, 2, "3 2 13 c=b"},
		{3, 21, 2, "0 3 21 c=b; @q(c) | @q(b) | b!=c"},
	} {
		e, errno := New(sign("a b c"), Strategy{Ratio: 1000}, one.clauses, one.nodes, inputs(t, in))
		if errno != api.OK {
			t.Fatal(errno)
		}
		run(e, one.steps)
		clauses, nodes := e.Count()
		wantText(t, fmt.Sprint(one.clauses, " ", one.nodes), fmt.Sprint(e.Status(), " ", clauses, " ", nodes, " ", sayAll(e.Passive())), one.want)
	}
}

// P1802: one that is picked is passive no more, also where making it small ends all; nor is it active.
func TestOutPicked(t *testing.T) {
	in := "c=b; ~@q(c,c,c)"
	all := begun(t, sign("b c"), Strategy{Ratio: 1000}, inputs(t, in))
	run(all, 100)
	wantText(t, "all", fmt.Sprint(all.Status(), " ", sayAll(all.Active()), " / ", recorded(all, 2)), "2 c=b; ~@q(b,b,b) / sup 0.0L into 0.0L [] {}{} b=b; "+
		"demod 1.0L [0] by 0.0L {}{} ~@q(b,c,c); demod 3.0L [1] by 0.0L {}{} ~@q(b,b,c); demod 4.0L [2] by 0.0L {}{} ~@q(b,b,b)")
	for clauses, want := range map[int]string{2: "3 2 c=b /~@q(c,c,c)", 3: "3 3 c=b /", 4: "3 4 c=b /", 5: "3 5 c=b /", 6: "2 6 c=b; ~@q(b,b,b) /"} {
		e, _ := New(sign("b c"), Strategy{Ratio: 1000}, clauses, 1000, inputs(t, in))
		run(e, 100)
		count, _ := e.Count()
		wantText(t, strconv.Itoa(clauses), fmt.Sprint(e.Status(), " ", count, " ", sayAll(e.Active()), " /", sayAll(e.Passive())), want)
	}
}

// P1806: of searches by chance: with just the limits that one needed it is the same; with one less of either it is Out; and Count is never above them.
func TestLimitsMade(t *testing.T) {
	m := newMaker(188)
	searches, steps := 0, 30
	for range 300 {
		g, st, l := m.sign(), m.strategy(), m.problem(6, 3, 3)
		e := begun(t, g, st, l)
		run(e, steps)
		clauses, nodes := e.Count()
		want := looks(e)
		bounded := func(clauses, nodes int) *Engine {
			e, errno := New(g, st, clauses, nodes, l)
			if errno != api.OK {
				t.Fatal(errno)
			}
			for range steps {
				picks := len(e.queue) == 0
				e.Step()
				if picks && len(e.queue) > clauses-len(e.records)+1 {
					t.Fatalf("%d clauses may be, and %d are; %d are in the queue", clauses, len(e.records), len(e.queue))
				}
				if c, n := e.Count(); c > clauses || n > nodes {
					t.Fatalf("%d %d of %s: %d %d", clauses, nodes, sayInputs(l), c, n)
				}
			}
			return e
		}
		if got := looks(bounded(clauses, nodes)); got != want {
			t.Fatalf("%d %d of %s: %s, not %s", clauses, nodes, sayInputs(l), got, want)
		}
		if clauses > 1 && bounded(clauses-1, nodes).Status() != Out || nodes > 1 && bounded(clauses, nodes-1).Status() != Out {
			t.Fatalf("less than %d %d of %s: not Out", clauses, nodes, sayInputs(l))
		}
		searches++
	}
	if searches < 300 {
		t.Errorf("only %d", searches)
	}
}

// P1806: what never has its turn is not kept: of many inputs no more than may be, and one; of what follows, too.
func TestQueueBounded(t *testing.T) {
	var l []Input
	for i := range 5000 {
		l = append(l, Input{C: of(atom(fn("@p" + strconv.Itoa(i))))})
	}
	e, _ := New(kbo.Sign{}, Strategy{Ratio: 1}, 10, 1000000, l)
	if len(e.queue) != 11 {
		t.Errorf("%d in the queue", len(e.queue))
	}
	e, _ = New(kbo.Sign{}, Strategy{Ratio: 1}, 10000, 30, l)
	if len(e.queue) != 16 {
		t.Errorf("%d in the queue", len(e.queue))
	}
	run(e, 100)
	clauses, nodes := e.Count()
	wantText(t, "count", fmt.Sprint(e.Status(), " ", clauses, " ", nodes), "3 15 30")
	// the last input has its turn only if those ahead of it leave it room, and then it proves
	e, _ = New(kbo.Sign{}, Strategy{Ratio: 1}, 5, 8, append(l[:4:4], Input{}))
	run(e, 100)
	wantText(t, "with room", fmt.Sprint(e.Status(), len(e.Proof())), "1 1")
	e, _ = New(kbo.Sign{}, Strategy{Ratio: 1}, 4, 8, append(l[:4:4], Input{}))
	run(e, 100)
	wantText(t, "without room", fmt.Sprint(e.Status(), len(e.Proof())), "3 0")
	e, _ = New(kbo.Sign{}, Strategy{Ratio: 1}, 5, 7, append(l[:4:4], Input{}))
	run(e, 100)
	wantText(t, "without room", fmt.Sprint(e.Status(), len(e.Proof())), "3 0")
}

// wide: so many literals, of the atoms name0, name1, .., with these arguments.
func wide(name string, count int, args string) string {
	var list []string
	for i := range count {
		list = append(list, "@"+name+strconv.Itoa(i)+args)
	}
	return strings.Join(list, " | ")
}

// P1802: where something was lost a search that has nothing left is Out, and else it is Saturated.
func TestLost(t *testing.T) {
	z := kbo.Sign{Names: []string{"@z"}, Weights: []int{1000}}
	for _, one := range []struct {
		what string
		g    kbo.Sign
		l    []Input
		want int
	}{
		// of the two comes one of 31 or 32 literals and 29
		{"into the picked one, 60 literals", z, inputs(t, "@z | "+wide("a", 29, "")+"; ~@z | "+wide("a", 30, "")), Saturated},
		{"into the picked one, 61 literals", z, inputs(t, "@z | "+wide("a", 29, "")+"; ~@z | "+wide("a", 31, "")), Out},
		{"from the picked one, 61 literals", z, inputs(t, "@z | "+wide("a", 29, "(a,a)")+"; ~@z | "+wide("b", 31, "")), Out},
		{"a unifier that is too deep", kbo.Sign{}, []Input{{C: of(not(fn("h", v(0), v(1)), fn("h", chain(40, v(1)), chain(40, fn("a")))))}}, Out},
		{"a unifier that is not", kbo.Sign{}, []Input{{C: of(not(fn("h", v(0), v(1)), fn("h", chain(40, v(1)), chain(40, fn("f")), fn("a"))))}}, Saturated},
		{"a factor that is too deep", kbo.Sign{}, []Input{{C: of(atom(fn("@p", v(0), v(1))), atom(fn("@p", chain(40, v(1)), chain(40, fn("a")))))}}, Out},
	} {
		e := begun(t, one.g, Strategy{Ratio: 1}, one.l)
		if run(e, 3000); e.Status() != one.want {
			t.Errorf("%s: status %d, lost %v", one.what, e.Status(), e.lost)
		}
	}
}

// P1802: behind 200 steps of one rewriting the next one goes on; what was lost by it stays lost.
func TestLostRewriting(t *testing.T) {
	for _, one := range []struct{ parts, status int }{{100, Saturated}, {200, Saturated}, {201, Out}, {450, Out}} {
		args := many(14, fn("b"))
		var arg []api.Term
		left := one.parts
		for ; left >= 14; left -= 14 {
			arg = append(arg, fn("g", args...))
		}
		arg = append(arg, fn("h", many(left, fn("b"))...))
		var c api.Clause
		for i, t := range arg {
			c = append(c, not(fn("@p"+strconv.Itoa(i), t), fn("$true")))
		}
		e := begun(t, sign("a b"), Strategy{Ratio: 1000}, append(inputs(t, "b=a"), Input{C: c}))
		run(e, 100)
		demods := 0
		for _, r := range e.records {
			if r.Rule == api.RDemod {
				demods++
			}
		}
		last := e.Active()[len(e.Active())-1]
		if e.Status() != one.status || demods != one.parts || strings.Contains(say(last), "b") {
			t.Errorf("%d parts: status %d, %d rewritten, active %s", one.parts, e.Status(), demods, sayAll(e.Active()))
		}
	}
}

// P1802: what would be too great where it is rewritten is lost; and what was lost keeps nothing from being proved.
func TestLostProved(t *testing.T) {
	grows := Input{C: of(yes(fn("g", v(0)), fn("h", many(16, v(0))...)))}
	great := Input{C: of(not(fn("@p", fn("g", flat(300, fn("c")))), fn("$true")))}
	st := Strategy{Path: true, Ratio: 1000}
	e := begun(t, sign("c flat h g"), st, []Input{grows, great})
	run(e, 100)
	wantText(t, "lost", fmt.Sprint(e.Status(), e.lost, len(e.Active())), "3 true 2")
	if lits.Size(e.Active()[1]) != 303 {
		t.Errorf("active: %s", sayAll(e.Active()))
	}
	e = begun(t, sign("c flat h g"), st, []Input{grows, great, {C: of(atom(fn("@q", many(16, flat(100, fn("d")))...)))}, {C: of(not(fn("@q", many(16, flat(100, fn("d")))...), fn("$true")))}})
	run(e, 100)
	wantText(t, "proved", fmt.Sprint(e.Status(), e.lost, len(e.Proof())), "1 true 4")
}
