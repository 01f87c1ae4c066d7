package term

import (
	"container/heap"
	"strings"

	"assize/api"
)

const maxLimit = 1000000 // of a bank's nodes

// node: a part whose arguments are told by their numbers. Two parts that are the same are one node, so it serves as a key.
type node struct {
	v    int
	fn   string
	argc int
	args [api.MaxArgs]int // behind the first argc all are 0
}

// arguments: their numbers.
func (n *node) arguments() []int { return n.args[:n.argc] }

// record: a node, and what holds it in the bank. One that nothing holds is gone.
type record struct {
	node
	kept int // how often it was made, and not dropped
	uses int // how often it stands as an argument of a node
}

// Bank: nodes, each once, by themselves and by their numbers.
type Bank struct {
	limit   int
	numbers map[node]int
	records map[int]*record
	free    freeNumbers
}

// New: a bank without terms, of so many nodes at most.
func New(limit int) (*Bank, api.Errno) {
	if limit < 1 || limit > maxLimit {
		return nil, api.ErrArg
	}
	b := emptyBank(limit)
	return &b, api.OK
}

func emptyBank(limit int) Bank {
	return Bank{limit: limit, numbers: map[node]int{}, records: map[int]*record{}}
}

// Make: the term is kept once more; its number.
func (b *Bank) Make(t api.Term) (int, api.Errno) {
	if b == nil {
		return 0, api.ErrNil
	}
	if errno := Right(t); errno != api.OK {
		return 0, errno
	}
	if b.missing(t) > b.limit-b.Len() {
		return 0, api.ErrFull
	}
	id := numberOf(t, b.enter)
	b.records[id].kept++
	return id, api.OK
}

// Get: the term of the node.
func (b *Bank) Get(id int) (api.Term, api.Errno) {
	if b == nil {
		return api.Term{}, api.ErrNil
	}
	if b.records[id] == nil {
		return api.Term{}, api.ErrGone
	}
	return b.built(id), api.OK
}

// Drop: the term of that number is kept once less.
func (b *Bank) Drop(id int) api.Errno {
	if b == nil {
		return api.ErrNil
	}
	r := b.records[id]
	if r == nil || r.kept == 0 {
		return api.ErrGone
	}
	r.kept--
	b.sweep(id)
	if b.Len() == 0 {
		*b = emptyBank(b.limit) // neither maps nor free numbers shrink of themselves
	}
	return api.OK
}

// Len: how many nodes there are.
func (b *Bank) Len() int {
	if b == nil {
		return 0
	}
	return len(b.numbers)
}

// numberOf: the term's number, where number tells each node's; it is asked of arguments ahead of what they are of, from the left.
func numberOf(t api.Term, number func(n node) int) int {
	n := node{v: t.Var, fn: t.Fn, argc: len(t.Args)}
	for i, arg := range t.Args {
		n.args[i] = numberOf(arg, number)
	}
	return number(n)
}

// missing: how many nodes of the term are not there yet. It is asked ahead of the change, so that one that fails has changed nothing.
func (b *Bank) missing(t api.Term) int {
	fresh := map[node]int{}
	numberOf(t, func(n node) int {
		if id, there := b.numbers[n]; there {
			return id
		}
		if _, met := fresh[n]; !met {
			fresh[n] = -1 - len(fresh) // below 0, where no node of the bank has its number
		}
		return fresh[n]
	})
	return len(fresh)
}

// enter: the node's number; a new one, if it is not there yet.
func (b *Bank) enter(n node) int {
	if id, there := b.numbers[n]; there {
		return id
	}
	n.fn = strings.Clone(n.fn) // the name may be a piece of a long text, which would be kept with it
	id := b.leastFree()
	b.numbers[n] = id
	b.records[id] = &record{node: n}
	for _, arg := range n.arguments() {
		b.records[arg].uses++
	}
	return id
}

// leastFree: the least number that is free, which then is so no more.
func (b *Bank) leastFree() int {
	if b.free.Len() == 0 { // then the nodes have the first numbers, without a gap
		return b.Len() + 1
	}
	return heap.Pop(&b.free).(int)
}

// sweep: the node is gone, if nothing holds it, and so are those of its arguments that it alone held.
func (b *Bank) sweep(id int) {
	r := b.records[id]
	if r.kept > 0 || r.uses > 0 {
		return
	}
	delete(b.numbers, r.node)
	delete(b.records, id)
	heap.Push(&b.free, id)
	for _, arg := range r.arguments() {
		b.records[arg].uses--
		b.sweep(arg)
	}
}

// built: the term of a node that is there, in new memory.
func (b *Bank) built(id int) api.Term {
	r := b.records[id]
	t := api.Term{Var: r.v, Fn: r.fn}
	for _, arg := range r.arguments() {
		t.Args = append(t.Args, b.built(arg))
	}
	return t
}

// freeNumbers: a heap of the numbers that nodes had and none has now, the least first.
type freeNumbers []int

func (f freeNumbers) Len() int           { return len(f) }
func (f freeNumbers) Less(i, k int) bool { return f[i] < f[k] }
func (f freeNumbers) Swap(i, k int)      { f[i], f[k] = f[k], f[i] }
func (f *freeNumbers) Push(number any)   { *f = append(*f, number.(int)) }

func (f *freeNumbers) Pop() any {
	last := len(*f) - 1
	number := (*f)[last]
	*f = (*f)[:last]
	return number
}
