package saturate

import (
	"fmt"
	"slices"
	"testing"

	"assize/api"
	"assize/infer"
	"assize/kbo"
	"assize/lits"
	"assize/multi"
	"assize/simplify"
	"assize/term"
)

// model: the chapter's words, one by one, with no eye on time or room: no size is kept, no fault leaves a step from within, the queue takes all.
type model struct {
	order           multi.Order
	st              Strategy
	clauses, nodes  int
	records, queue  []api.Step
	passive, active []int
	light           int // picks of the lightest behind the last pick of the oldest
	subsumed        int // active clauses that are active no more
	lost            bool
	status          int
}

func newModel(g kbo.Sign, st Strategy, clauses, nodes int, l []Input) *model {
	m := &model{order: multi.Order{Path: st.Path, G: g}, st: st, clauses: clauses, nodes: nodes}
	for _, in := range l {
		m.queue = append(m.queue, api.Step{Rule: api.RInput, Name: in.Name, Index: in.Index, C: lits.Normal(in.C)})
	}
	return m
}

func (m *model) last() int { return len(m.records) - 1 }

func (m *model) sizes() int {
	sum := 0
	for _, s := range m.records {
		sum += lits.Size(s.C)
	}
	return sum
}

// add: is the record added?
func (m *model) add(s api.Step) bool {
	if len(m.records) == m.clauses || m.sizes()+lits.Size(s.C) > m.nodes {
		m.status = Out
		return false
	}
	m.records = append(m.records, s)
	return true
}

// small: the last record of what comes of that one, where nothing changes any more; and were all added?
func (m *model) small(number int) (int, bool) {
	var units []simplify.Unit
	for _, n := range m.active {
		if c := m.records[n].C; len(c) == 1 && !c[0].Neg {
			units = append(units, simplify.Unit{Id: n, C: c})
		}
	}
	for changed := true; changed; {
		changed = false
		if s, ok := simplify.Clean(m.records[number].C); ok {
			s.A = number
			if !m.add(s) {
				return 0, false
			}
			number, changed = m.last(), true
		}
		steps, lost := simplify.Rewrite(m.order, units, m.records[number].C)
		m.lost = m.lost || lost
		for _, s := range steps {
			s.A = number
			if !m.add(s) {
				return 0, false
			}
			number, changed = m.last(), true
		}
	}
	return number, true
}

// goesOn: does the record go on?
func (m *model) goesOn(number int) bool {
	c := m.records[number].C
	if len(c) == 0 {
		m.status = Proved
		return false
	}
	if lits.Tautology(c) {
		return false
	}
	for _, n := range m.active {
		if simplify.Subsumes(m.records[n].C, c) {
			return false
		}
	}
	return true
}

func (m *model) pick() int {
	at := 0
	if m.light == m.st.Ratio {
		m.light = 0
	} else {
		m.light++
		for i, n := range m.passive {
			if lits.Size(m.records[n].C) < lits.Size(m.records[m.passive[at]].C) {
				at = i
			}
		}
	}
	number := m.passive[at]
	m.passive = slices.Concat(m.passive[:at], m.passive[at+1:])
	return number
}

func (m *model) follow(a, b int, steps []api.Step, lost bool) {
	for _, s := range steps {
		s.A, s.B = a, b
		m.queue = append(m.queue, s)
	}
	m.lost = m.lost || lost
}

func (m *model) step() {
	if m.status != Running {
		return
	}
	if len(m.queue) > 0 {
		first := m.queue[0]
		m.queue = m.queue[1:]
		if m.add(first) {
			if number, ok := m.small(m.last()); ok && m.goesOn(number) {
				m.passive = append(m.passive, number)
			}
		}
		return
	}
	if len(m.passive) == 0 {
		m.status = Saturated
		if m.lost {
			m.status = Out
		}
		return
	}
	if number, ok := m.small(m.pick()); ok && m.goesOn(number) {
		m.infer(number)
	}
}

func (m *model) infer(number int) {
	c := m.records[number].C
	var left []int
	for _, n := range m.active {
		if !simplify.Subsumes(c, m.records[n].C) {
			left = append(left, n)
		}
	}
	m.subsumed += len(m.active) - len(left)
	m.active = append(left, number)
	for _, n := range m.active {
		steps, lost := infer.Super(m.order, m.st.Sel, c, m.records[n].C)
		m.follow(number, n, steps, lost)
		if n != number {
			steps, lost = infer.Super(m.order, m.st.Sel, m.records[n].C, c)
			m.follow(n, number, steps, lost)
		}
	}
	steps, lost := infer.Resolve(m.order, m.st.Sel, c)
	m.follow(number, 0, steps, lost)
	steps, lost = infer.Factor(m.order, m.st.Sel, c)
	m.follow(number, 0, steps, lost)
}

// proof: what the last record comes from, found from it on.
func (m *model) proof() []api.Step {
	if m.status != Proved {
		return nil
	}
	needed := []int{m.last()}
	for i := 0; i < len(needed); i++ {
		s := m.records[needed[i]]
		var from []int
		switch s.Rule {
		case api.RSup, api.RDemod:
			from = []int{s.A, s.B}
		case api.REqRes, api.REqFact, api.RClean:
			from = []int{s.A}
		}
		for _, n := range from {
			if !slices.Contains(needed, n) {
				needed = append(needed, n)
			}
		}
	}
	slices.Sort(needed)
	var steps []api.Step
	for _, n := range needed {
		s := m.records[n]
		if s.Rule != api.RInput {
			s.A = slices.Index(needed, s.A)
		}
		if s.Rule == api.RSup || s.Rule == api.RDemod {
			s.B = slices.Index(needed, s.B)
		}
		steps = append(steps, s)
	}
	return steps
}

// sameStep: are both alike, all through?
func sameStep(a, b api.Step) bool {
	sameBind := func(x, y api.Bind) bool { return x.Var == y.Var && term.Same(x.T, y.T) }
	numbers := func(s api.Step) [6]int { return [6]int{s.Rule, s.Index, s.A, s.B, s.LitA, s.LitB} }
	return numbers(a) == numbers(b) && a.Name == b.Name && a.FlipA == b.FlipA && a.FlipB == b.FlipB && slices.Equal(a.Pos, b.Pos) &&
		slices.EqualFunc(a.SA, b.SA, sameBind) && slices.EqualFunc(a.SB, b.SB, sameBind) && lits.Equal(a.C, b.C)
}

// looks: all that the calls tell of what is kept.
func (m *model) looks() string {
	all := func(numbers []int) []api.Clause {
		var list []api.Clause
		for _, n := range numbers {
			list = append(list, m.records[n].C)
		}
		return list
	}
	return fmt.Sprint(m.status, " ", len(m.records), " ", m.sizes(), "\nactive ", sayAll(all(m.active)), "\npassive ", sayAll(all(m.passive)), "\nproof ", saySteps(m.proof()))
}

func looks(e *Engine) string {
	clauses, nodes := e.Count()
	return fmt.Sprint(e.Status(), " ", clauses, " ", nodes, "\nactive ", sayAll(e.Active()), "\npassive ", sayAll(e.Passive()), "\nproof ", saySteps(e.Proof()))
}

// sameKept: have both the same from that record on? The queue of the engine may end earlier.
func (m *model) sameKept(e *Engine, from int) bool {
	if e.Status() != m.status || len(e.records) != len(m.records) || !slices.Equal(e.active, m.active) || !slices.Equal(e.passive, m.passive) {
		return false
	}
	for i, s := range m.records[from:] {
		if !sameStep(e.records[from+i].Step, s) {
			return false
		}
	}
	return len(e.queue) <= len(m.queue) && slices.EqualFunc(e.queue, m.queue[:len(e.queue)], sameStep)
}

// wantModel: step by step what the words say, for so many steps; what comes of it is counted.
func wantModel(t *testing.T, counts map[string]int, g kbo.Sign, st Strategy, clauses, nodes int, l []Input, steps int) {
	t.Helper()
	e, errno := New(g, st, clauses, nodes, l)
	if errno != api.OK {
		t.Fatalf("New of %s: %v", sayInputs(l), errno)
	}
	m := newModel(g, st, clauses, nodes, l)
	for i := range steps {
		from, was := len(m.records), m.status
		m.step()
		status := e.Step()
		look := i%16 == 0 || m.status != Running
		if status != m.status || !m.sameKept(e, from) || look && looks(e) != m.looks() {
			t.Fatalf("%v %+v %d %d of %s: Step %d\n%s\n, not\n%s", g, st, clauses, nodes, sayInputs(l), status, looks(e), m.looks())
		}
		if was != Running {
			break
		}
	}
	counts[[]string{"running", "proved", "saturated", "out"}[e.Status()]]++
	if m.lost {
		counts["lost"]++
		if len(m.queue)+len(m.passive) == 0 && m.status == Out && len(m.records) < clauses {
			counts["out since lost"]++
		}
	}
	for _, s := range m.records {
		counts[fmt.Sprint("rule ", s.Rule)]++
	}
	counts["proof"] += len(e.Proof())
	counts["subsumed"] += m.subsumed
}

// P1801 to P1803: of problems by chance, by all strategies, step by step what the words say.
func TestModel(t *testing.T) {
	m := newMaker(181)
	counts := map[string]int{}
	for range 1500 {
		wantModel(t, counts, m.sign(), m.strategy(), api.MaxSteps, mostNodes, m.problem(6, 3, 3), 40)
	}
	for _, kind := range []string{"running", "proved", "saturated", "subsumed"} {
		if counts[kind] < 150 {
			t.Errorf("too few of a kind: %v", counts)
		}
	}
	for rule := api.RInput; rule <= api.RClean; rule++ {
		if counts[fmt.Sprint("rule ", rule)] < 250 {
			t.Errorf("too few of a rule: %v", counts)
		}
	}
}

// P1802, P1806: near the limits, too.
func TestModelLimits(t *testing.T) {
	m := newMaker(182)
	counts := map[string]int{}
	for range 2000 {
		wantModel(t, counts, m.sign(), m.strategy(), 1+m.Intn(30), 1+m.Intn(250), m.problem(6, 3, 3), 60)
	}
	if counts["proved"] < 100 || counts["saturated"] < 300 || counts["out"] < 800 {
		t.Errorf("too few of a kind: %v", counts)
	}
}

// P1802: more clauses of few literals, so that searches go on for long.
func TestModelLong(t *testing.T) {
	m := newMaker(183)
	counts := map[string]int{}
	for range 300 {
		wantModel(t, counts, m.sign(), m.strategy(), 400, 6000, m.problem(12, 2, 3), 200)
	}
	if counts["rule 5"] < 1000 || counts["subsumed"] < 200 || counts["out"] < 3 || counts["proof"] < 250 {
		t.Errorf("too few of a kind: %v", counts)
	}
}

// losing: a clause of which, or beside others, something is lost: too deep for a unifier, or too many literals.
func (m maker) losing() api.Clause {
	pair := func(l, r api.Term) api.Term { return fn("g", l, r) }
	one, two := pair(v(0), v(1)), pair(chain(35+m.Intn(20), v(1)), chain(30, fn("a")))
	switch m.Intn(4) {
	case 0:
		return of(not(one, two))
	case 1:
		return of(atom(fn("@p", one)), atom(fn("@p", two)))
	case 2:
		return of(api.Lit{Neg: m.Intn(2) == 0, L: fn("@p", chain(25+m.Intn(25), v(0))), R: fn("$true")}, atom(fn("@p", chain(m.Intn(25)+1, v(0)))))
	}
	var c api.Clause
	for i := range 35 {
		c = append(c, api.Lit{Neg: i == 0 && m.Intn(2) == 0, L: fn("@p", chain(i/2+1, fn(m.pick("a", "b")))), R: fn("$true")})
	}
	return c
}

// P1802: where much is lost, too.
func TestModelLost(t *testing.T) {
	m := newMaker(184)
	counts := map[string]int{}
	for range 200 {
		l := append(m.problem(2, 2, 2), Input{Name: "great", C: m.losing()}, Input{Name: "great", Index: 1, C: m.losing()})
		wantModel(t, counts, m.sign(), m.strategy(), 150, 20000, l, 60)
	}
	if counts["lost"] < 60 || counts["out since lost"] < 25 || counts["proved"] < 25 {
		t.Errorf("too few of a kind: %v", counts)
	}
}
