package scope

import (
	"slices"
	"strconv"
	"strings"
	"testing"

	"tallow/api"
)

// resolvesAll wants no fault.
func resolvesAll(t *testing.T, l ...*api.Stmt) {
	t.Helper()
	if _, err := Resolve(l); err != nil {
		t.Error(err)
	}
}

// numbered answers n names, all different.
func numbered(n int) []string {
	var l []string
	for i := range n {
		l = append(l, "x"+strconv.Itoa(i))
	}
	return l
}

func localsOf(names ...string) []*api.Stmt {
	var l []*api.Stmt
	for _, name := range names {
		l = append(l, localOf(name, nil))
	}
	return l
}

// usesOf has a use of each of those names.
func usesOf(names ...string) []*api.Stmt {
	var l []*api.Stmt
	for _, name := range names {
		l = append(l, returnOf(nameOf(name)))
	}
	return l
}

// at sets a statement's line.
func at(line int, s *api.Stmt) *api.Stmt {
	s.Line = line
	return s
}

// exprAt sets an expression's line.
func exprAt(line int, e *api.Expr) *api.Expr {
	e.Line = line
	return e
}

// MaxLocals

// full has that many locals, and then a statement.
func full(n int, s *api.Stmt) []*api.Stmt { return append(localsOf(numbered(n)...), s) }

func TestManyLocals(t *testing.T) {
	for _, x := range []struct {
		needs int // registers, at once
		s     func() *api.Stmt
	}{
		{1, func() *api.Stmt { return at(9, localOf("a", nil)) }},
		{1, func() *api.Stmt { return at(9, localOf("x0", exprAt(8, a()))) }},
		{1, func() *api.Stmt { return at(9, localFunctionOf("f", exprAt(8, funcOf(nil)))) }},
		{3, func() *api.Stmt { return at(9, forOf("i", exprAt(8, a()), exprAt(8, b()))) }},
		{1, func() *api.Stmt { return at(9, tryOf("e", nil, nil)) }},
		{1, func() *api.Stmt { return at(8, tryOf("e", blockOf(at(9, localOf("a", nil))), nil)) }},
		{2, func() *api.Stmt {
			return at(8, tryOf("e", blockOf(localOf("a", nil)), blockOf(at(9, localOf("a", nil)))))
		}},
		{4, func() *api.Stmt { return at(8, forOf("i", a(), b(), at(9, localOf("a", nil)))) }},
		{6, func() *api.Stmt { return at(8, forOf("i", a(), b(), at(9, forOf("j", a(), b())))) }},
		{2, func() *api.Stmt { return at(7, doOf(at(8, localOf("a", nil)), at(9, localOf("b", nil)))) }},
		{1, func() *api.Stmt { return at(8, whileOf(a(), at(9, localOf("a", nil)))) }},
		{1, func() *api.Stmt { return at(8, ifOf(a(), nil, blockOf(at(9, localOf("a", nil))))) }},
	} {
		resolvesAll(t, full(100-x.needs, x.s())...)
		refuses(t, api.ErrLong, 9, full(101-x.needs, x.s())...)
		refuses(t, api.ErrLong, 9, append(full(101-x.needs, x.s()), nil)...)
		// Functions have registers of their own, but their blocks have not.
		resolvesAll(t, full(99, localOf("f", funcOf(nil, full(100-x.needs, x.s())...)))...)
		refuses(t, api.ErrLong, 9, full(99, localOf("f", funcOf(nil, full(101-x.needs, x.s())...)))...)
		resolvesAll(t, full(90-x.needs, returnOf(funcOf(nil, doOf(localsOf(numbered(100)...)...), doOf(full(100-x.needs, x.s())...))))...)
		refuses(t, api.ErrLong, 9, append(localsOf(numbered(50)...), doOf(full(51-x.needs, x.s())...))...)
		resolvesAll(t, append(localsOf(numbered(50)...), doOf(localsOf(numbered(50)...)...), doOf(full(50-x.needs, x.s())...))...)
		// Of one name or of many: each is a local.
		refuses(t, api.ErrLong, 9, append(localsOf(slices.Repeat([]string{"a"}, 101-x.needs)...), x.s())...)
	}
	scopes, err := Resolve(localsOf(numbered(100)...))
	if err != nil || len(scopes[0].Decls) != 100 || scopes[0].Decls[99] != (api.Decl{Reg: 99}) {
		t.Error(scopes, err)
	}
	// For 98 and 99 that are full a loop's own two are two too many, and told where its name is.
	for n := 98; n <= 100; n++ {
		refuses(t, api.ErrLong, 9, full(n, at(9, forOf("i", a(), b(), nil)))...)
	}
	refuses(t, api.ErrLong, 9, full(80, at(9, returnOf(exprAt(8, funcOf(numbered(20), full(80, at(9, localOf("a", nil)))...)))))...)
	resolvesAll(t, full(100, returnOf(funcOf(numbered(20), localsOf(numbered(80)...)...)))...)
}

// What stands ahead of a declaration is told ahead of it, what stands behind it is not.
func TestLocalsAndOtherFaults(t *testing.T) {
	bad := func() *api.Expr { return exprAt(5, &api.Expr{}) }
	refuses(t, api.ErrForm, 5, full(100, at(9, localOf("a", bad())))...)
	refuses(t, api.ErrLong, 9, full(100, at(9, localFunctionOf("f", bad())))...)
	refuses(t, api.ErrLong, 9, full(100, at(9, localFunctionOf("f", nil)))...)
	refuses(t, api.ErrForm, 9, full(99, at(9, localFunctionOf("f", nil)))...)
	refuses(t, api.ErrTwice, 5, full(99, at(9, localFunctionOf("f", exprAt(5, funcOf(make([]string, 2))))))...)
	refuses(t, api.ErrForm, 5, full(98, at(9, forOf("i", bad(), a())))...)
	refuses(t, api.ErrForm, 5, full(98, at(9, forOf("i", a(), bad())))...)
	refuses(t, api.ErrForm, 9, full(98, at(9, forOf("i", a(), nil)))...)
	refuses(t, api.ErrLong, 9, full(98, at(9, forOf("i", a(), b(), returnOf(bad()))))...)
	refuses(t, api.ErrForm, 5, full(97, at(9, forOf("i", a(), b(), returnOf(bad()))))...)
	refuses(t, api.ErrForm, 5, full(100, at(9, tryOf("e", blockOf(returnOf(bad())), nil)))...)
	refuses(t, api.ErrLong, 9, full(100, at(9, tryOf("e", nil, blockOf(returnOf(bad())))))...)
}

// MaxParams

func TestManyParams(t *testing.T) {
	resolvesAll(t, returnOf(funcOf(numbered(19))), returnOf(funcOf(numbered(20))), localFunctionOf("f", funcOf(numbered(20))))
	f := exprAt(9, funcOf(numbered(21), nil))
	refuses(t, api.ErrLong, 9, at(8, returnOf(f)))
	refuses(t, api.ErrLong, 9, at(8, localFunctionOf("f", f)))
	for _, n := range []int{2, 3, 20} {
		// A name at each two places of n.
		for i := range n {
			for j := range i {
				params := numbered(n)
				params[i] = params[j]
				refuses(t, api.ErrTwice, 9, returnOf(exprAt(9, funcOf(params, nil))))
			}
		}
	}
	for _, n := range []int{21, 22, 1000, 1 << 22} {
		refuses(t, api.ErrLong, 9, returnOf(exprAt(9, funcOf(make([]string, n), nil))))
	}
	// Names of bytes; of a function and of one around it.
	resolvesAll(t, returnOf(funcOf([]string{"", " ", "x", "X", "x\x00", strings.Repeat("x", 1<<20)}, returnOf(funcOf([]string{"x"})))))
}

// MaxUps

func TestManyNamesFromOutside(t *testing.T) {
	names := numbered(100)
	in := func(l ...*api.Stmt) []*api.Stmt { return append(localsOf(names...), returnOf(funcOf(nil, l...))) }
	last := func() *api.Stmt { return at(8, returnOf(exprAt(9, nameOf("x60")))) }
	resolvesAll(t, in(usesOf(names[:60]...)...)...)
	refuses(t, api.ErrLong, 9, in(append(usesOf(names[:60]...), last())...)...)
	refuses(t, api.ErrLong, 9, in(append(usesOf(names[:60]...), last(), nil)...)...)
	refuses(t, api.ErrForm, 7, in(append(usesOf(names[:60]...), at(7, setOf(nil, a())), last())...)...)
	// One that it has already, one of its own, and a global are not one more.
	resolvesAll(t, in(append(usesOf(names[:60]...), usesOf(names[:60]...)...)...)...)
	resolvesAll(t, in(append(usesOf(names[:60]...), localOf("x60", nil), last(), returnOf(a()))...)...)
	refuses(t, api.ErrLong, 9, in(append(usesOf(names[:60]...), doOf(localOf("x60", nil)), last())...)...)
	// In functions within.
	inner := func(l ...*api.Stmt) *api.Stmt { return returnOf(funcOf(nil, l...)) }
	resolvesAll(t, in(inner(usesOf(names[:60]...)...))...)
	refuses(t, api.ErrLong, 9, in(inner(append(usesOf(names[:60]...), last())...))...)
	resolvesAll(t, in(inner(usesOf(names[:30]...)...), inner(usesOf(names[10:60]...)...))...)
	refuses(t, api.ErrLong, 9, in(inner(usesOf(names[:30]...)...), inner(usesOf(names[30:60]...)...), inner(last()))...)
	refuses(t, api.ErrLong, 9, in(inner(usesOf(names[:30]...)...), inner(usesOf(names[30:60]...)...), last())...)
	refuses(t, api.ErrLong, 9, in(append(usesOf(names[:60]...), inner(inner(inner(last()))))...)...)
	resolvesAll(t, in(append(usesOf(names[:60]...), inner(inner(localOf("x60", nil), inner(last()))))...)...)
	// Within are as many as may be, around are less: what lies in between is from outside for those within alone.
	resolvesAll(t, in(append(localsOf(names[:50]...), inner(usesOf(names[:60]...)...), inner(usesOf(names[40:100]...)...))...)...)
	refuses(t, api.ErrLong, 9, in(append(localsOf(names[:50]...), inner(append(usesOf(names[:60]...), last())...))...)...)
	resolvesAll(t, append(localsOf(names...), inner(usesOf(names[:60]...)...), inner(usesOf(names[40:]...)...))...)
	scopes, err := Resolve(in(inner(usesOf(names[40:]...)...)))
	if err != nil || len(scopes) != 3 || len(scopes[1].Ups) != 60 || scopes[1].Ups[59] != (api.Up{Local: true, Index: 99}) || len(scopes[2].Ups) != 60 || scopes[2].Ups[59] != (api.Up{Index: 59}) || scopes[2].Uses[59] != (api.Use{At: api.AtUp, Index: 59}) {
		t.Errorf("%q, %v", allTold(scopes), err)
	}
}

// MaxProtos

// within has n functions, each in the one ahead; in the innermost one is that statement.
func within(n int, s *api.Stmt) *api.Stmt {
	for range n {
		s = returnOf(funcOf(nil, s))
	}
	return s
}

func TestManyFunctions(t *testing.T) {
	var l []*api.Stmt
	for range 255 {
		l = append(l, returnOf(funcOf([]string{"p"}, returnOf(a()))))
	}
	scopes, err := Resolve(l)
	if err != nil || len(scopes) != 256 || told(scopes[255]) != "g|0|" {
		t.Errorf("%d, %v", len(scopes), err)
	}
	for _, more := range []*api.Expr{funcOf(nil), funcOf(nil, nil), funcOf(numbered(21)), funcOf(make([]string, 2))} {
		more.Line = 9
		refuses(t, api.ErrLong, 9, append(l, at(8, returnOf(more)))...)
		refuses(t, api.ErrLong, 9, append(l, at(8, doOf(localFunctionOf("f", more))), nil)...)
		refuses(t, api.ErrLong, 9, within(255, returnOf(more)))
		refuses(t, api.ErrLong, 9, within(100, doOf(append(l[:155:155], returnOf(more))...)))
	}
	refuses(t, api.ErrForm, 9, append(l, at(9, localFunctionOf("f", nil)))...)
	resolvesAll(t, within(255, doOf()))
	resolvesAll(t, doOf(within(100, doOf()), within(155, doOf())))
	refuses(t, api.ErrLong, 0, within(256, doOf()))
	refuses(t, api.ErrLong, 0, doOf(within(100, doOf()), within(156, doOf())))
	// One that stands at two places is two.
	f := exprAt(9, funcOf(nil))
	same := slices.Repeat([]*api.Expr{f}, 255)
	resolvesAll(t, statementOf(callOf(a(), same...)))
	refuses(t, api.ErrLong, 9, statementOf(callOf(a(), append(same, f)...)))
	// From the innermost of many functions out to the whole.
	scopes, err = Resolve(blockOf(localOf("a", nil), within(255, returnOf(a()))))
	if err != nil || told(scopes[1]) != "||0" || told(scopes[2]) != "||u0" || told(scopes[255]) != "u0||u0" {
		t.Errorf("%d, %v", len(scopes), err)
	}
}

// MaxParts

// filler has n parts.
func filler(n int) []*api.Stmt { return slices.Repeat(blockOf(returnOf(nil)), n) }

// Ahead of parts of each kind are so many that they are the last ones that may be, or one too many.
func TestEachPartCounts(t *testing.T) {
	all := []*api.Stmt{
		localOf("x", nil), localOf("x", a()), setOf(a(), b()), setOf(indexOf(a(), b()), c()), statementOf(callOf(a())), doOf(), doOf(returnOf(nil), returnOf(nil)), whileOf(a(), breakOf()), ifOf(a(), nil, nil), ifOf(a(), blockOf(returnOf(nil)), blockOf(returnOf(b()))),
		forOf("i", a(), b(), breakOf()), returnOf(nil), tryOf("e", blockOf(returnOf(nil)), blockOf(returnOf(nil))), localFunctionOf("f", funcOf([]string{"p", "q"}, returnOf(nil))), statementOf(callOf(a(), b(), c())), returnOf(tableOf(a(), b(), nil, c())),
	}
	for kind, e := range eachExpr() {
		if kind > 0 {
			all = append(all, returnOf(e))
		}
	}
	for _, s := range all {
		lined(s)
		lines := stmtLines(s)
		resolvesAll(t, append(filler(1<<16-len(lines)), s)...)
		// Each of the parts may be the first one too many.
		for i, line := range lines {
			refuses(t, api.ErrLong, *line, append(filler(1<<16-i), s)...)
			refuses(t, api.ErrLong, *line, append(filler(1<<16-i), s, nil)...)
		}
		refuses(t, api.ErrForm, 0, append(filler(1<<16-len(lines)), s, nil)...)
	}
}

func TestManyParts(t *testing.T) {
	resolvesAll(t, filler(65535)...)
	resolvesAll(t, filler(65536)...)
	refuses(t, api.ErrLong, 9, append(filler(65536), at(9, returnOf(nil)))...)
	refuses(t, api.ErrLong, 9, append(filler(65536), at(9, returnOf(nil)), at(8, breakOf()))...)
	refuses(t, api.ErrBreak, 8, append(filler(65535), at(8, breakOf()), at(9, returnOf(nil)))...)
	// It is told ahead of all else in it.
	for _, w := range wrongStmts() {
		lined(w.stmt)
		refuses(t, api.ErrLong, 100, append(filler(65536), w.stmt)...)
	}
	for _, w := range wrongExprs() {
		lined(returnOf(w.expr))
		refuses(t, api.ErrLong, w.expr.Line, append(filler(65535), returnOf(w.expr))...)
		refuses(t, api.ErrLong, w.expr.Line, append(filler(65535), setOf(w.expr, a()))...)
	}
	// What is not there is not one more.
	refuses(t, api.ErrForm, 0, append(filler(65536), nil)...)
	refuses(t, api.ErrForm, 9, append(filler(65535), at(9, statementOf(nil)))...)
}

func TestPartsThatAreShared(t *testing.T) {
	doubled := func(times int) *api.Expr {
		e := exprAt(9, nilOf())
		for range times {
			e = binOf(e, e)
			e.Line = 9
		}
		return e
	}
	resolvesAll(t, returnOf(doubled(14)), returnOf(doubled(14)))
	resolvesAll(t, returnOf(doubled(15)))
	refuses(t, api.ErrLong, 9, doOf(returnOf(doubled(15)), at(9, returnOf(nil))))
	refuses(t, api.ErrLong, 9, returnOf(doubled(16)))
	refuses(t, api.ErrLong, 9, returnOf(doubled(1000)))
	use := nameOf("a")
	resolves(t, blockOf(localOf("b", binOf(use, use)), localOf("a", use), setOf(use, use)), "g g g 1 1|0 1|")
	s := localOf("a", use)
	resolves(t, blockOf(s, s, s), "g 0 1|0 1 2|")
	f := funcOf(nil, setOf(use, nilOf()))
	resolves(t, blockOf(localOf("x", f), localOf("a", f), returnOf(f)), "|0 1b|", "g||", "g||", "u0||1")
}

// R1: trees in which a part is its own part, or that are as deep as they are big

func TestPartsOfThemselves(t *testing.T) {
	one, nothing := exprAt(9, nilOf()), at(9, returnOf(nil))
	for _, kind := range []int{api.StDo, api.StWhile, api.StIf, api.StFor, api.StTry} {
		s := &api.Stmt{Kind: kind, Line: 9, R: one, To: one}
		s.A = blockOf(nothing, s)
		refuses(t, api.ErrLong, 9, s)
		refuses(t, api.ErrLong, 9, doOf(s), nil)
		s.A = blockOf(s, s, nil)
		refuses(t, api.ErrLong, 9, s)
		if kind == api.StIf || kind == api.StTry {
			s.A, s.B = nil, blockOf(nothing, s)
			refuses(t, api.ErrLong, 9, s)
		}
	}
	for kind, e := range eachExpr() {
		if kind < api.ExIndex {
			continue
		}
		*e = api.Expr{Kind: kind, Line: 9, L: e, R: e, Keys: []*api.Expr{e, nil}, Args: []*api.Expr{e, e}, Body: blockOf(at(9, returnOf(e)))}
		refuses(t, api.ErrLong, 9, at(9, returnOf(e)))
		refuses(t, api.ErrLong, 9, at(9, localOf("x", e)), nil)
	}
}

func TestDeepTrees(t *testing.T) {
	e, s := a(), doOf()
	for range 65534 {
		e, s = unOf(e), doOf(s)
	}
	resolvesAll(t, returnOf(e))
	resolvesAll(t, doOf(s))
	refuses(t, api.ErrLong, 0, doOf(doOf(s)))
	for _, wrap := range []func(e *api.Expr) *api.Expr{func(e *api.Expr) *api.Expr { return binOf(e, nilOf()) }, func(e *api.Expr) *api.Expr { return binOf(nilOf(), e) }, func(e *api.Expr) *api.Expr { return callOf(nilOf(), e) }, func(e *api.Expr) *api.Expr { return tableOf(e, nilOf()) }, func(e *api.Expr) *api.Expr { return indexOf(nilOf(), e) }} {
		e := a()
		for range 32767 {
			e = wrap(e)
		}
		resolves(t, blockOf(returnOf(e)), "g||")
		refuses(t, api.ErrLong, 0, returnOf(wrap(e)))
	}
	choice := ifOf(nilOf(), nil, nil)
	for range 32767 {
		choice = ifOf(nilOf(), nil, blockOf(choice))
	}
	resolvesAll(t, choice)
}
