package syntax

import (
	"strings"

	"assize/api"
	"assize/lexer"
)

// Show: the formula as a text, which Fof reads back; of one that is not right nothing.
func Show(f api.Formula) string {
	if Right(f) != api.OK {
		return ""
	}
	var w writer
	w.formula(f)
	return w.String()
}

// writer: gathers the text of what is right.
type writer struct{ strings.Builder }

func (w *writer) put(texts ...string) {
	for _, text := range texts {
		w.WriteString(text)
	}
}

func (w *writer) formula(f api.Formula) {
	sign := signs[f.Kind]
	switch f.Kind {
	case api.FAtom:
		w.atom(f, "=")
	case api.FNot:
		w.negation(f.Kids[0])
	case api.FAll, api.FEx:
		w.put(sign, " [", f.Name, "] : ")
		w.formula(f.Kids[0])
	case api.FTrue, api.FFalse:
		w.put(sign)
	default:
		w.put("(")
		w.formula(f.Kids[0])
		w.put(" ", sign, " ")
		w.formula(f.Kids[1])
		w.put(")")
	}
}

// negation: of an equation its sign alone is another one.
func (w *writer) negation(kid api.Formula) {
	if kid.Kind == api.FAtom && !isPredicate(kid) {
		w.atom(kid, "!=")
		return
	}
	w.put(signs[api.FNot], " ")
	w.formula(kid)
}

// atom: the sign is between the sides of an equation; a predicate needs none.
func (w *writer) atom(f api.Formula, sign string) {
	if isPredicate(f) {
		w.term(api.Term{Fn: strings.TrimPrefix(f.L.Fn, predicate), Args: f.L.Args})
		return
	}
	w.term(f.L)
	w.put(" ", sign, " ")
	w.term(f.R)
}

func (w *writer) term(t api.Term) {
	if isVariable(t) {
		w.put(t.Fn)
		return
	}
	w.put(lexer.Show(t.Fn))
	if len(t.Args) == 0 {
		return
	}
	for i, arg := range t.Args {
		w.put([...]string{"(", ","}[min(i, 1)])
		w.term(arg)
	}
	w.put(")")
}
