package disc

import (
	"iter"
	"strings"

	"assize/api"
)

// symbol: what a path tells of a part: its name, and how many arguments it has. A variable's is the zero one, the star.
type symbol struct {
	name string
	args int
}

func symbolOf(part api.Term) symbol { return symbol{name: part.Fn, args: len(part.Args)} }

func (s symbol) isStar() bool { return s == symbol{} }

// node: the first part of a path. It has children, or numbers: no term's path goes on where another one's ends.
type node struct {
	key      symbol // among the children of its parent
	parent   *node
	children map[symbol]*node
	numbers  map[int]struct{} // of the terms whose path ends here
}

// reach: the child of that symbol, and whether it had to be made.
func (n *node) reach(s symbol) (child *node, made bool) {
	if child = n.children[s]; child != nil {
		return child, false
	}
	if n.children == nil {
		n.children = map[symbol]*node{}
	}
	child = &node{key: s, parent: n}
	n.children[s] = child
	return child, true
}

// hold: a term of that number ends here.
func (n *node) hold(id int) {
	if n.numbers == nil {
		n.numbers = map[int]struct{}{}
	}
	n.numbers[id] = struct{}{}
}

// needed: is it a first part of the path of a term?
func (n *node) needed() bool { return len(n.children) > 0 || len(n.numbers) > 0 }

// endOf: the node at which the term's path ends; nil, if there is none.
func (n *node) endOf(t api.Term) *node {
	for part := range parts(t) {
		if n = n.children[symbolOf(part)]; n == nil {
			return nil
		}
	}
	return n
}

// stop: a part on the way through a term: its symbol, and the number of the first part behind it and all its own.
type stop struct {
	symbol
	behind int
}

// routeOf: the stops of the term's path.
func routeOf(t api.Term) []stop {
	var route []stop
	for part := range parts(t) {
		route = append(route, stop{symbol: symbolOf(part)})
	}
	// from the last one on, since what is behind a part is known by what is behind its arguments
	for i := len(route) - 1; i >= 0; i-- {
		behind := i + 1
		for range route[i].args {
			behind = route[behind].behind
		}
		route[i].behind = behind
	}
	return route
}

// generalEnds: the ends below the node of the paths that become the route if parts are put in place of their stars, one by one.
func (n *node) generalEnds(route []stop) iter.Seq[*node] {
	return func(yield func(*node) bool) {
		var walk func(n *node, at int) bool
		walk = func(n *node, at int) bool {
			if n == nil {
				return true
			}
			if at == len(route) {
				return yield(n)
			}
			here := route[at]
			if !walk(n.children[symbol{}], here.behind) {
				return false
			}
			// a star of the route was met by a star already
			return here.isStar() || walk(n.children[here.symbol], at+1)
		}
		walk(n, 0)
	}
}

// parts: the term's parts, each ahead of its arguments', from the left.
func parts(t api.Term) iter.Seq[api.Term] {
	return func(yield func(api.Term) bool) {
		var walk func(part api.Term) bool
		walk = func(part api.Term) bool {
			if !yield(part) {
				return false
			}
			for _, arg := range part.Args {
				if !walk(arg) {
					return false
				}
			}
			return true
		}
		walk(t)
	}
}

// copied: the term in new memory, its names too: one may be a piece of a long text, which would be kept with it.
func copied(t api.Term) api.Term {
	own := api.Term{Var: t.Var, Fn: strings.Clone(t.Fn)}
	if len(t.Args) > 0 {
		own.Args = make([]api.Term, len(t.Args))
	}
	for i, arg := range t.Args {
		own.Args[i] = copied(arg)
	}
	return own
}
