package infer

import (
	"testing"

	"assize/kbo"
	"assize/multi"
)

// oneCase: what follows of one clause, as sayStep says it.
type oneCase struct {
	o        multi.Order
	sel      bool
	in, want string
}

// P1602: which literals, which binds, what comes.
func TestResolve(t *testing.T) {
	o := kb("b a c f @p")
	for _, c := range []oneCase{
		{o, false, "0", ""},
		{o, false, "a!=a", "0 {} 0"},
		{o, false, "a!=b", ""},
		{o, false, "a=a", ""},
		{o, false, "X0=a", ""},
		{o, false, "$true!=$true", "0 {} 0"},
		{o, false, "$true=$true", ""},
		{o, false, "~@p(a)", ""},
		{o, false, "@p(X0)!=@p(a)", "0 {0:a} 0"},
		{o, false, "@p(X0)!=@q(X0)", ""},
		{o, false, "X0!=X0", "0 {} 0"},
		{o, false, "X3!=X1", "0 {3:X1} 0"},
		{o, false, "X0!=f(X0)", ""},
		{o, false, "g(X4,a)!=g(f(X2),X5)", "0 {4:f(X2),5:a} 0"},
		{o, true, "X0!=a | @p(X0)", "0 {0:a} @p(a)"},
		{o, true, "@p(X5) | a!=X5 | @q(X3,X5)", "1 {5:a} @p(a) | @q(X0,a)"},
		{o, true, "@q(X7,X2) | f(X2)!=f(X7)", "1 {7:X2} @q(X0,X0)"},
		{o, true, "X0!=a | X0!=b | b=b", "0 {0:a} a!=b | b=b"},
		{o, true, "b=b | a!=a | b!=b", "1 {} b=b | b!=b"},
		{o, true, "a!=b | X0!=X1", ""},
		{o, false, "a!=b | X0!=X1", "1 {1:X0} a!=b"},
		{o, false, "f(X0)!=f(X1) | g(X2,X3)!=g(X3,X2) | X0=X4", "0 {1:X0} g(X0,X1)!=g(X1,X0) | X2=X3; 1 {3:X2} f(X0)!=f(X1) | X0=X2"},
	} {
		l, lost := Resolve(c.o, c.sel, read(t, c.in))
		want(t, "Resolve "+c.in, l, lost, c.want, false)
	}
}

// P1602: without a selected one it is Maximal, in the instance; another one may be the same.
func TestResolveMaximal(t *testing.T) {
	o := kb("b a c f @p")
	for _, c := range []oneCase{
		{o, false, "X0!=a | @p(X0)", ""},
		{o, false, "X0!=a | @p(b)", ""},
		{o, false, "@p(X0)!=@p(a) | @p(X0)", "0 {0:a} @p(a)"},
		{o, false, "a!=a | a!=a", "0 {} a!=a; 1 {} a!=a"},
		{o, false, "a!=a | c!=c", "1 {} a!=a"},
		{o, false, "X0!=a | X0!=b", "0 {0:a} a!=b"},
		{o, false, "X0!=a | X0=c", ""},
		{o, false, "X0!=c | X0=a", "0 {0:c} c=a"},
		{o, false, "X0!=a | X1=c", ""},
		{o, false, "X0!=a | X1=b", "0 {0:a} X0=b"},
		{lp("f h"), false, "h(X0)!=h(a) | f(f(X0))=X0", "0 {0:a} f(f(a))=a"},
		{lp("h f"), false, "h(X0)!=h(a) | f(f(X0))=X0", ""},
		{kb("f h"), false, "h(X0)!=h(a) | f(f(X0))=X0", ""},
		{multi.Order{G: kbo.Sign{Names: []string{"h"}, Weights: []int{9}}}, false, "h(X0)!=h(a) | f(f(X0))=X0", "0 {0:a} f(f(a))=a"},
		{o, true, "a!=a | c!=c | @p(c)", "0 {} c!=c | @p(c)"},
	} {
		l, lost := Resolve(c.o, c.sel, read(t, c.in))
		want(t, "Resolve "+c.in, l, lost, c.want, false)
	}
}

// P1603: which literals and sides, which binds, what comes, in which order.
func TestFactor(t *testing.T) {
	o := kb("b a c f @p")
	for _, c := range []oneCase{
		{o, false, "0", ""},
		{o, false, "a=b", ""},
		{o, false, "@p(X0)", ""},
		{o, false, "@p(X0) | @p(X1)", "0L 1L {1:X0} @p(X0) | $true!=$true; 1L 0L {1:X0} @p(X0) | $true!=$true"},
		{o, true, "@p(X0) | @p(X1)", "0L 1L {1:X0} @p(X0) | $true!=$true; 1L 0L {1:X0} @p(X0) | $true!=$true"},
		{o, false, "@p(X0) | $true=@p(a)", "0L 1R {0:a} $true=@p(a) | $true!=$true; 1R 0L {0:a} @p(a) | $true!=$true"},
		{o, false, "@p(a) | @p(b)", ""},
		{o, false, "@p(X0) | ~@p(X1)", ""},
		{o, false, "~@p(X0) | ~@p(X1)", ""},
		{o, true, "@p(X0) | @p(X1) | ~@q", ""},
		{o, false, "@p(X0) | @p(X1) | ~@q", "0L 1L {1:X0} @p(X0) | ~@q | $true!=$true; 1L 0L {1:X0} @p(X0) | ~@q | $true!=$true"},
		{o, false, "@p(X0) | @p(X1) | ~@p(f(c))", "0L 1L {1:X0} @p(X0) | ~@p(f(c)) | $true!=$true; 1L 0L {1:X0} @p(X0) | ~@p(f(c)) | $true!=$true"},
		{o, false, "$true=$true | $true=$true", ""},
		{o, false, "a=b | a=c", ""},
		{o, false, "c=b | c=a", "1L 0L {} c=b | a!=b"},
		{o, false, "b=c | c=a", "1L 0R {} b=c | a!=b"},
		{o, false, "c=b | a=c", "1R 0L {} c=b | a!=b"},
		{o, false, "c=b | c!=a", ""},
		{o, false, "g(X0,X1)=X2 | g(a,b)=c", "0L 1L {0:a,1:b} g(a,b)=c | X0!=c; 0R 1L {2:g(a,b)} g(a,b)=c | g(X0,X1)!=c; 1L 0L {0:a,1:b} g(a,b)=X0 | c!=X0"},
		{o, false, "f(X0)=f(X1) | f(X2)=f(X3)", "0L 1L {2:X0} f(X0)=f(X1) | f(X2)!=f(X1); 0L 1R {3:X0} f(X0)=f(X1) | f(X2)!=f(X0); 0R 1L {2:X1} f(X0)=f(X1) | f(X2)!=f(X1); 0R 1R {3:X1} f(X0)=f(X1) | f(X2)!=f(X0); " +
			"1L 0L {2:X0} f(X0)=f(X1) | f(X2)!=f(X1); 1L 0R {2:X1} f(X0)=f(X1) | f(X2)!=f(X0); 1R 0L {3:X0} f(X0)=f(X1) | f(X2)!=f(X1); 1R 0R {3:X1} f(X0)=f(X1) | f(X2)!=f(X0)"},
		{o, false, "@r(X2) | a!=a | @r(X1) | @r(X0)", "0L 2L {2:X1} a!=a | @r(X0) | @r(X1) | $true!=$true; 0L 3L {2:X0} a!=a | @r(X0) | @r(X1) | $true!=$true; 2L 0L {2:X1} @r(X0) | a!=a | @r(X1) | $true!=$true; " +
			"2L 3L {1:X0} @r(X0) | a!=a | @r(X1) | $true!=$true; 3L 0L {2:X0} @r(X0) | a!=a | @r(X1) | $true!=$true; 3L 2L {1:X0} @r(X0) | a!=a | @r(X1) | $true!=$true"},
	} {
		l, lost := Factor(c.o, c.sel, read(t, c.in))
		want(t, "Factor "+c.in, l, lost, c.want, false)
	}
}

// P1603: the side is not Less nor Equal than its other one, and the literal is Maximal, in the instance; no variable is a truth.
func TestFactorConditions(t *testing.T) {
	o := kb("b a c f @p")
	for _, c := range []oneCase{
		{o, false, "X0=a | X0=b", "0L 1L {} X0=b | a!=b"},
		{o, false, "a=a | a=a", ""},
		{o, false, "a=b | a=b", "0L 1L {} a=b | b!=b; 1L 0L {} a=b | b!=b"},
		{o, false, "@p(X0) | @p(X1) | @p(f(X0))", "1L 2L {1:f(X0)} @p(X0) | @p(f(X0)) | $true!=$true; 2L 1L {1:f(X0)} @p(X0) | @p(f(X0)) | $true!=$true"},
		{o, false, "@p(X0) | @p(a) | @p(c)", "0L 2L {0:c} @p(a) | @p(c) | $true!=$true; 2L 0L {0:c} @p(c) | @p(a) | $true!=$true"},
		{o, false, "@p(X0) | @p(a) | ~@p(X0)", ""},
		{o, false, "@p(X0)=@q(X1) | @p(a)", "0L 1L {0:a} @p(a) | ~@q(X0)"},
		{o, false, "X0=b | @p(c)", ""},
		{o, false, "X0=X1 | @p(c)", ""},
		{o, false, "X0=X1 | $true=$true", ""},
		{lp("f h"), false, "h(X0)=f(X0) | h(a)=f(f(a))", "1L 0L {0:a} h(a)=f(a) | f(f(a))!=f(a)"},
		{lp("h f"), false, "h(X0)=f(X0) | h(a)=f(f(a))", "0R 1R {0:f(a)} h(a)=f(f(a)) | h(f(a))!=h(a)"},
		{lp("h f"), false, "h(X0)=f(X0) | h(a)=f(a)", "0R 1R {0:a} h(a)=f(a) | h(a)!=h(a); 1R 0R {0:a} h(a)=f(a) | h(a)!=h(a)"},
	} {
		l, lost := Factor(c.o, c.sel, read(t, c.in))
		want(t, "Factor "+c.in, l, lost, c.want, false)
	}
}
