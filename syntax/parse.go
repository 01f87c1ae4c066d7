package syntax

import (
	"slices"

	"assize/api"
	"assize/lexer"
)

// Fof: the formula that the text says, or an error and its place.
func Fof(s string) (api.Formula, int, api.Errno) {
	p, at, err := read(s)
	if err != api.OK {
		return api.Formula{}, at, err
	}
	if len(p.free) > 0 {
		return api.Formula{}, p.free[0].At, api.ErrFree
	}
	return p.whole.f, 0, api.OK
}

// Cnf: the formula that a clause's text says, for all that its variables may be, or an error and its place.
func Cnf(s string) (api.Formula, int, api.Errno) {
	p, at, err := read(s)
	if err != api.OK {
		return api.Formula{}, at, err
	}
	if !isClause(p.whole.f) {
		return api.Formula{}, 0, api.ErrSyntax
	}
	whole := p.whole
	for _, token := range slices.Backward(p.free) {
		whole = compound(api.FAll, token.Text, whole)
	}
	if err := whole.limited(); err != api.OK {
		return api.Formula{}, 0, err
	}
	return whole.f, 0, api.OK
}

// isClause: is it made by FOr alone of what a clause's text may have?
func isClause(f api.Formula) bool {
	switch f.Kind {
	case api.FOr:
		return all(f.Kids, isClause)
	case api.FNot:
		return f.Kids[0].Kind == api.FAtom
	}
	return f.Kind == api.FAtom || f.Kind == api.FTrue || f.Kind == api.FFalse
}

// piece: a formula that was read, and how great it is.
// It is measured as it is made: what a long text says may stand too deep to be gone through again.
type piece struct {
	f           api.Formula
	wide        bool
	size, depth int
}

func (p *piece) limited() api.Errno { return limited(p.wide, p.size, p.depth) }

// equation: of both; a predicate's has truth at its right.
func equation(l, r api.Term) *piece {
	f := api.Formula{Kind: api.FAtom, L: l, R: r}
	return &piece{f, wide(f), Size(f), Depth(f)}
}

func compound(kind int, name string, kids ...*piece) *piece {
	whole := piece{f: api.Formula{Kind: kind, Name: name}, size: 1, depth: 1}
	for _, kid := range kids {
		whole.f.Kids = append(whole.f.Kids, kid.f)
		whole.wide = whole.wide || kid.wide
		whole.size += kid.size
		whole.depth = max(whole.depth, kid.depth+1)
	}
	return &whole
}

// parser: what it has read of a text.
type parser struct {
	reader
	scope
	free  []lexer.Token // the first one of each free variable
	whole *piece
}

// read: a text, within the limits.
func read(s string) (*parser, int, api.Errno) {
	tokens, at, err := lexer.Lex(s)
	if err != api.OK {
		return nil, at, err
	}
	p := &parser{reader: reader{rest: tokens, end: len(s)}, scope: newScope()}
	if !p.reads() {
		return nil, p.ahead().At, api.ErrSyntax
	}
	return p, 0, p.whole.limited()
}

// reads: is the text a formula to its end? What does not fit leaves from any depth by a panic.
func (p *parser) reads() (ok bool) {
	defer func() {
		if recover() != nil {
			ok = false
		}
	}()
	p.whole = p.formula()
	p.finish()
	return true
}

func (p *parser) formula() *piece {
	left := p.unary()
	switch kind := kindOf(p.sign()); kind {
	case api.FImp, api.FIff:
		p.must(signs[kind])
		return compound(kind, "", left, p.unary())
	case api.FAnd, api.FOr:
		for p.skip(signs[kind]) {
			left = compound(kind, "", left, p.unary())
		}
	}
	return left
}

func (p *parser) unary() *piece {
	switch kind := kindOf(p.sign()); kind {
	case api.FNot:
		p.must(signs[kind])
		return compound(kind, "", p.unary())
	case api.FAll, api.FEx:
		p.must(signs[kind])
		return p.quantified(kind)
	case api.FTrue, api.FFalse:
		p.must(signs[kind])
		return compound(kind, "")
	}
	if p.skip("(") {
		inner := p.formula()
		p.must(")")
		return inner
	}
	return p.atom()
}

// kindOf: the kind whose sign it is; 0: it is none's.
func kindOf(sign string) int {
	for kind, one := range signs {
		if one == sign {
			return kind
		}
	}
	return 0
}

// quantified: what stands behind the quantifier's sign. It reaches no further than its unary.
func (p *parser) quantified(kind int) *piece {
	p.must("[")
	names := parted(p, p.variable)
	p.must("]")
	p.must(":")
	var inner *piece
	p.within(names, func() { inner = p.unary() })
	for _, name := range slices.Backward(names) {
		inner = compound(kind, name, inner)
	}
	return inner
}

func (p *parser) variable() string { return p.take(lexer.Var).Text }

// atom: an equation, its negation, or a predicate. A variable is a thing and no truth: it stands in equations alone.
func (p *parser) atom() *piece {
	named := p.ahead().Kind == lexer.Name
	left := p.term()
	switch {
	case p.skip("="):
		return equation(left, p.term())
	case p.skip("!="):
		return compound(api.FNot, "", equation(left, p.term()))
	case !named:
		panic(misfit{})
	}
	left.Fn = predicate + left.Fn
	return equation(left, api.Term{Fn: truth})
}

func (p *parser) term() api.Term {
	if p.ahead().Kind == lexer.Var {
		token := p.take(lexer.Var)
		if p.meet(token.Text) {
			p.free = append(p.free, token)
		}
		return api.Term{Fn: token.Text}
	}
	t := api.Term{Fn: p.take(lexer.Name).Text}
	if p.skip("(") {
		t.Args = parted(p, p.term)
		p.must(")")
	}
	return t
}

// parted: one or more, parted by commas.
func parted[T any](p *parser, one func() T) []T {
	list := []T{one()}
	for p.skip(",") {
		list = append(list, one())
	}
	return list
}
