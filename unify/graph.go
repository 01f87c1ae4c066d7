package unify

import "assize/api"

// graph: the parts of two terms, in classes of those that must become one.
// Each part has one node, so that as many joins as there are nodes are enough, however great the terms become that are made of them.
type graph struct {
	nodes []node
	vars  map[int]int // of each variable the first node
}

type node struct {
	t     api.Term // in the memory of what was given
	first int      // the node of its first argument; the others' follow
	up    int      // a node of the same class, nearer to its head; the head's is itself
	open  bool     // its class is being measured
	whole extent   // of its class, if it is the head and has been measured
}

// extent: how great a term is; its size is told up to one beyond MaxNodes.
type extent struct{ size, depth int }

// laid: the graph in which nothing is joined yet, but the nodes of each variable. Node 0 is a, node 1 is b.
func laid(a, b api.Term) *graph {
	g := &graph{vars: map[int]int{}}
	g.add(a)
	g.add(b)
	for at := 0; at < len(g.nodes); at++ {
		g.nodes[at].first = len(g.nodes)
		for _, arg := range g.nodes[at].t.Args {
			g.add(arg)
		}
	}
	return g
}

// add: a node for the part.
func (g *graph) add(t api.Term) {
	up := len(g.nodes)
	if isVar(t) {
		if first, met := g.vars[t.Var]; met {
			up = first
		} else {
			g.vars[t.Var] = up
		}
	}
	g.nodes = append(g.nodes, node{t: t, up: up})
}

// head: the node that stands for the class: a function, if the class has one, else its least variable.
// On the way nodes are hung higher up, so that the ways stay short.
func (g *graph) head(at int) int {
	for g.nodes[at].up != at {
		g.nodes[at].up = g.nodes[g.nodes[at].up].up
		at = g.nodes[at].up
	}
	return at
}

// unite: joins all that must become one, if a and b do.
func (g *graph) unite() {
	pairs := [][2]int{{0, 1}}
	for len(pairs) > 0 {
		last := len(pairs) - 1
		x, y := g.head(pairs[last][0]), g.head(pairs[last][1])
		pairs = pairs[:last]
		if x != y {
			pairs = append(pairs, g.join(x, y)...)
		}
	}
}

// join: makes two classes one, by their heads, and tells which pairs must become one for it.
func (g *graph) join(x, y int) [][2]int {
	s, t := g.nodes[x], g.nodes[y]
	if isVar(s.t) && (!isVar(t.t) || t.t.Var < s.t.Var) {
		x, y = y, x
	}
	g.nodes[y].up = x
	if isVar(s.t) || isVar(t.t) {
		return nil
	}
	mustAgree(s.t, t.t)
	pairs := make([][2]int, len(s.t.Args))
	for i := range pairs {
		pairs[i] = [2]int{s.first + i, t.first + i}
	}
	return pairs
}

// measure: how great each class becomes. None can stand within itself.
// Each class is reached from a itself, with which b is one.
func (g *graph) measure() { g.extent(0) }

func (g *graph) extent(at int) extent {
	n := &g.nodes[g.head(at)]
	if n.open {
		panic(misfit{})
	}
	if n.whole.size == 0 {
		n.open = true
		n.whole = g.around(n)
		n.open = false
	}
	return n.whole
}

// around: the extent of a head, by its arguments' extents. Sizes may double with each class: beyond MaxNodes they no longer count.
func (g *graph) around(n *node) extent {
	size, depth := 1, 0
	for i := range n.t.Args {
		arg := g.extent(n.first + i)
		size, depth = size+arg.size, max(depth, arg.depth)
	}
	return extent{min(size, api.MaxNodes+1), depth + 1}
}

// tooGreat: is what stands for one of the variables no right term?
func (g *graph) tooGreat() bool {
	for _, at := range g.vars {
		if whole := g.extent(at); whole.size > api.MaxNodes || whole.depth > api.MaxDepth {
			return true
		}
	}
	return false
}

// built: what stands for the node's class, in new memory.
func (g *graph) built(at int) api.Term {
	n := g.nodes[g.head(at)]
	if len(n.t.Args) == 0 {
		return api.Term{Var: n.t.Var, Fn: n.t.Fn}
	}
	args := make([]api.Term, len(n.t.Args))
	for i := range args {
		args[i] = g.built(n.first + i)
	}
	return api.Term{Fn: n.t.Fn, Args: args}
}
