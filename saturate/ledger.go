package saturate

import (
	"slices"

	"assize/api"
	"assize/lits"
	"assize/term"
)

// amount: so many clauses, of so many parts together.
type amount struct{ clauses, nodes int }

// and: with one clause more, of that size.
func (a amount) and(size int) amount { return amount{a.clauses + 1, a.nodes + size} }

func (a amount) fits(limit amount) bool { return a.clauses <= limit.clauses && a.nodes <= limit.nodes }

// record: a step, and the size of its clause, which is asked for at each pick.
type record struct {
	api.Step
	size int
}

// ledger: the records, by their numbers, and how much they may be.
type ledger struct {
	limit, used amount
	records     []record
}

// overflow: a record that the limits don't allow.
type overflow struct{}

// add: the record's number. One that the limits don't allow leaves the whole step by a panic, from however deep.
func (l *ledger) add(s api.Step) int {
	size := lits.Size(s.C)
	more := l.used.and(size)
	if !more.fits(l.limit) {
		panic(overflow{})
	}
	l.used = more
	l.records = append(l.records, record{s, size})
	return len(l.records) - 1
}

// clause: of a record, in the ledger's memory.
func (l *ledger) clause(number int) api.Clause { return l.records[number].C }

func (l *ledger) size(number int) int { return l.records[number].size }

// clauses: of these records, in new memory.
func (l *ledger) clauses(numbers []int) []api.Clause {
	list := make([]api.Clause, len(numbers))
	for i, number := range numbers {
		list[i] = copiedClause(l.clause(number))
	}
	return list
}

// derivation: of the last record: all that it comes from, and it, numbered anew, in new memory.
func (l *ledger) derivation() []api.Step {
	needed := l.origins()
	numbers := make([]int, len(l.records))
	var steps []api.Step
	for number, r := range l.records {
		if !needed[number] {
			continue
		}
		numbers[number] = len(steps)
		s := copiedStep(r.Step)
		for _, parent := range parents(&s) {
			*parent = numbers[*parent]
		}
		steps = append(steps, s)
	}
	return steps
}

// origins: of each record: does the last one come from it? Parents have lower numbers, so each is met behind all that come from it.
func (l *ledger) origins() []bool {
	needed := make([]bool, len(l.records))
	needed[len(needed)-1] = true
	for number, r := range slices.Backward(l.records) {
		if !needed[number] {
			continue
		}
		for _, parent := range parents(&r.Step) {
			needed[*parent] = true
		}
	}
	return needed
}

// parents: where the step tells them; only those that its rule has.
func parents(s *api.Step) []*int {
	switch s.Rule {
	case api.RSup, api.RDemod:
		return []*int{&s.A, &s.B}
	case api.REqRes, api.REqFact, api.RClean:
		return []*int{&s.A}
	}
	return nil
}

func copiedStep(s api.Step) api.Step {
	s.Pos, s.SA, s.SB, s.C = slices.Clone(s.Pos), copiedBinds(s.SA), copiedBinds(s.SB), copiedClause(s.C)
	return s
}

func copiedBinds(s []api.Bind) []api.Bind {
	made := slices.Clone(s)
	for i, b := range made {
		made[i].T = copiedTerm(b.T)
	}
	return made
}

func copiedClause(c api.Clause) api.Clause {
	made := slices.Clone(c)
	for i, l := range made {
		made[i].L, made[i].R = copiedTerm(l.L), copiedTerm(l.R)
	}
	return made
}

func copiedTerm(t api.Term) api.Term {
	whole, _ := term.At(t, nil)
	return whole
}
