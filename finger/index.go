package finger

import (
	"slices"
	"strings"

	"assize/api"
	"assize/term"
)

// group: the numbers of the terms that have one fingerprint.
type group struct {
	key     fingerprint
	numbers map[int]struct{}
}

// Index: groups by their fingerprints, and by the numbers in them. There is none without a number.
type Index struct {
	groups  map[fingerprint]*group
	holders map[int]*group
}

// New: an index without terms.
func New() *Index {
	x := emptyIndex()
	return &x
}

func emptyIndex() Index {
	return Index{groups: map[fingerprint]*group{}, holders: map[int]*group{}}
}

// Insert: the term is kept by that number.
func (x *Index) Insert(id int, t api.Term) api.Errno {
	if x == nil {
		return api.ErrNil
	}
	if term.Right(t) != api.OK {
		return api.ErrArg
	}
	if x.holders[id] != nil {
		return api.ErrTwice
	}
	g := x.groupOf(fingerprintOf(t))
	g.numbers[id] = struct{}{}
	x.holders[id] = g
	return api.OK
}

// Remove: the term of that number is kept no more.
func (x *Index) Remove(id int) api.Errno {
	if x == nil {
		return api.ErrNil
	}
	g := x.holders[id]
	if g == nil {
		return api.ErrGone
	}
	delete(x.holders, id)
	delete(g.numbers, id)
	if len(g.numbers) == 0 {
		delete(x.groups, g.key)
	}
	if x.Len() == 0 {
		*x = emptyIndex() // maps do not shrink of themselves
	}
	return api.OK
}

// Unifiable: the numbers of the terms that may have a unifier with this one.
func (x *Index) Unifiable(t api.Term) []int {
	asked := Of(t)
	return x.fitting(t, func(kept []Feature) bool { return Unifies(kept, asked) })
}

// Generals: the numbers of the terms that may match this one.
func (x *Index) Generals(t api.Term) []int {
	asked := Of(t)
	return x.fitting(t, func(kept []Feature) bool { return Matches(kept, asked) })
}

// Instances: the numbers of the terms that this one may match.
func (x *Index) Instances(t api.Term) []int {
	asked := Of(t)
	return x.fitting(t, func(kept []Feature) bool { return Matches(asked, kept) })
}

// Len: how many terms are kept.
func (x *Index) Len() int {
	if x == nil {
		return 0
	}
	return len(x.holders)
}

// groupOf: the group of that fingerprint; a new one, if there is none yet.
func (x *Index) groupOf(p fingerprint) *group {
	if g := x.groups[p]; g != nil {
		return g
	}
	for i := range p {
		p[i].Fn = strings.Clone(p[i].Fn) // the name may be a piece of a long text, which would be kept with it
	}
	g := &group{key: p, numbers: map[int]struct{}{}}
	x.groups[p] = g
	return g
}

// fitting: the numbers of those whose fingerprint fits, rising; none, if the term that is asked for is not right.
func (x *Index) fitting(t api.Term, fits func(kept []Feature) bool) []int {
	if x == nil || term.Right(t) != api.OK {
		return nil
	}
	var list []int
	for _, g := range x.groups {
		if !fits(g.key[:]) {
			continue
		}
		for id := range g.numbers {
			list = append(list, id)
		}
	}
	slices.Sort(list)
	return list
}
