package infer

import (
	"iter"
	"strings"

	"assize/api"
	"assize/lits"
	"assize/term"
)

// face: a literal of a clause, looked at from one of its sides; the terms are in the clause's memory.
type face struct {
	at          int // the literal's number
	flip, neg   bool
	side, other api.Term
}

// faceOf: the literal at i, from its left side, or, flipped, from its right one.
func faceOf(c api.Clause, i int, flip bool) face {
	l := c[i]
	if flip {
		return face{at: i, flip: true, neg: l.Neg, side: l.R, other: l.L}
	}
	return face{at: i, neg: l.Neg, side: l.L, other: l.R}
}

// in: the same face of an instance.
func (f face) in(c api.Clause) face { return faceOf(c, f.at, f.flip) }

// What may be wanted of a face.
func positive(f face) bool  { return !f.neg }
func negative(f face) bool  { return f.neg }
func unflipped(f face) bool { return !f.flip }
func untrue(f face) bool    { return !term.Same(f.side, lits.True()) }

// allowed: by the selected literal; if there is none, each is.
func allowed(selected int) func(face) bool {
	return func(f face) bool { return selected < 0 || selected == f.at }
}

// faces: of the clause's literals, rising, each by side 0, then 1; those that are wanted in each way.
func faces(c api.Clause, wanted ...func(face) bool) iter.Seq[face] {
	return func(yield func(face) bool) {
		for i := range c {
			for f := range facesAt(c, i, wanted...) {
				if !yield(f) {
					return
				}
			}
		}
	}
}

// facesAt: those of one literal.
func facesAt(c api.Clause, i int, wanted ...func(face) bool) iter.Seq[face] {
	return func(yield func(face) bool) {
		for _, flip := range [...]bool{false, true} {
			f := faceOf(c, i, flip)
			if isWanted(f, wanted) && !yield(f) {
				return
			}
		}
	}
}

func isWanted(f face, wanted []func(face) bool) bool {
	for _, want := range wanted {
		if !want(f) {
			return false
		}
	}
	return true
}

// pairs: the faces of each two literals, by the first one's number, then the second one's, then their sides.
func pairs(c api.Clause, wanted ...func(face) bool) iter.Seq2[face, face] {
	return func(yield func(face, face) bool) {
		for one, two := range others(len(c)) {
			for f := range facesAt(c, one, wanted...) {
				for g := range facesAt(c, two, wanted...) {
					if !yield(f, g) {
						return
					}
				}
			}
		}
	}
}

// others: each number below count with each other one.
func others(count int) iter.Seq2[int, int] {
	return func(yield func(int, int) bool) {
		for one := range count {
			for two := range count {
				if one != two && !yield(one, two) {
					return
				}
			}
		}
	}
}

// functions: the parts that are no variables, with their places, in the order of term.Places.
// A place is good until the next one comes: all stand in one list.
func functions(t api.Term) iter.Seq2[[]int, api.Term] {
	return func(yield func([]int, api.Term) bool) {
		var place []int
		var walk func(part api.Term) bool
		walk = func(part api.Term) bool {
			if isVar(part) {
				return true
			}
			if !yield(place, part) {
				return false
			}
			for i, arg := range part.Args {
				place = append(place, i)
				if !walk(arg) {
					return false
				}
				place = place[:len(place)-1]
			}
			return true
		}
		walk(t)
	}
}

func isVar(t api.Term) bool { return t.Fn == "" }

// truth: is the term true or false, and no thing?
func truth(t api.Term) bool { return t.Fn == lits.True().Fn || strings.HasPrefix(t.Fn, "@") }

// truthWithin: is an argument of the term a truth, or an argument of one of these, and so on?
func truthWithin(t api.Term) bool {
	for _, arg := range t.Args {
		if truth(arg) || truthWithin(arg) {
			return true
		}
	}
	return false
}
