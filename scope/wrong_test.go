package scope

import (
	"errors"
	"math"
	"testing"

	"tallow/api"
)

// Lines.

// stmtLines has the lines of statements and all their parts, in the order of the walk.
func stmtLines(l ...*api.Stmt) []*int {
	var lines []*int
	for _, s := range l {
		if s != nil {
			lines = append(append(lines, &s.Line), exprLines(s.L, s.R, s.To)...)
			lines = append(append(lines, stmtLines(s.A...)...), stmtLines(s.B...)...)
		}
	}
	return lines
}

func exprLines(l ...*api.Expr) []*int {
	var lines []*int
	for _, e := range l {
		if e == nil {
			continue
		}
		lines = append(append(lines, &e.Line), exprLines(e.L, e.R)...)
		for i := range max(len(e.Keys), len(e.Args)) {
			for _, items := range [][]*api.Expr{e.Keys, e.Args} {
				if i < len(items) {
					lines = append(lines, exprLines(items[i])...)
				}
			}
		}
		lines = append(lines, stmtLines(e.Body...)...)
	}
	return lines
}

// lined gives each part, none of which is there twice, a line of its own.
func lined(l ...*api.Stmt) []*api.Stmt {
	for i, line := range stmtLines(l...) {
		*line = 100 + 3*i
	}
	return l
}

// Faults.

// wrong is a part that is wrong in itself, or of which a part is.
type wrong struct {
	stmt *api.Stmt
	expr *api.Expr
	code api.Errno
	line *int // of the part of which it is told
}

func noKinds() []int { return []int{0, -1, 13, 100, math.MaxInt, math.MinInt} }

// eachExpr has an expression of each kind, by its number.
func eachExpr() []*api.Expr {
	return []*api.Expr{
		nil, nilOf(), {Kind: api.ExTrue}, {Kind: api.ExFalse}, {Kind: api.ExInt, N: 5}, {Kind: api.ExStr, Text: "s"}, a(),
		indexOf(a(), b()), callOf(a(), b()), funcOf([]string{"p"}, returnOf(a())), unOf(a()), binOf(a(), b()), tableOf(nil, a(), b(), c()),
	}
}

// wrongExprs has expressions that are wrong, made anew.
func wrongExprs() []wrong {
	var l []wrong
	add := func(code api.Errno, e *api.Expr, line *int) { l = append(l, wrong{expr: e, code: code, line: line}) }
	own := func(code api.Errno, e *api.Expr) { add(code, e, &e.Line) }
	for _, kind := range noKinds() {
		own(api.ErrForm, &api.Expr{Kind: kind})
	}
	own(api.ErrForm, &api.Expr{L: a(), R: b(), Text: "a", Args: []*api.Expr{nil}, Body: blockOf(nil)})
	for _, e := range []*api.Expr{
		indexOf(nil, b()), indexOf(a(), nil), indexOf(nil, nil), callOf(nil), callOf(nil, a()), callOf(a(), nil), callOf(a(), b(), nil), callOf(a(), nil, b()), unOf(nil), binOf(nil, b()), binOf(a(), nil), tableOf(nil, nil), tableOf(a(), nil), tableOf(nil, a(), b(), nil), tableOf(nil, nil, nil, a()),
		{Kind: api.ExTable, Args: []*api.Expr{a()}}, {Kind: api.ExTable, Keys: []*api.Expr{nil}}, {Kind: api.ExTable, Keys: []*api.Expr{a()}}, {Kind: api.ExTable, Keys: []*api.Expr{nil, nil}, Args: []*api.Expr{a()}}, {Kind: api.ExTable, Keys: []*api.Expr{nil}, Args: []*api.Expr{a(), b()}},
		funcOf(nil, nil), funcOf([]string{"p"}, returnOf(nil), nil), funcOf(nil, nil, returnOf(nil)),
	} {
		own(api.ErrForm, e)
	}
	own(api.ErrTwice, funcOf([]string{"x", "x"}))
	own(api.ErrTwice, funcOf([]string{"x", "y", "z", "y"}, nil))
	own(api.ErrTwice, funcOf(make([]string, 20), breakOf()))
	own(api.ErrLong, funcOf(make([]string, 21), nil))
	stop := breakOf()
	add(api.ErrBreak, funcOf(nil, stop), &stop.Line)
	stop = breakOf()
	add(api.ErrBreak, funcOf(nil, ifOf(a(), nil, blockOf(doOf(tryOf("e", blockOf(stop), nil))))), &stop.Line)
	inner := unOf(nil)
	add(api.ErrForm, callOf(a(), tableOf(b(), binOf(c(), inner))), &inner.Line)
	return l
}

// wrongStmts has statements that are wrong, made anew.
func wrongStmts() []wrong {
	var l []wrong
	add := func(code api.Errno, s *api.Stmt, line *int) { l = append(l, wrong{stmt: s, code: code, line: line}) }
	own := func(s *api.Stmt) { add(api.ErrForm, s, &s.Line) }
	for _, kind := range noKinds() {
		own(&api.Stmt{Kind: kind})
	}
	own(&api.Stmt{Name: "x", L: a(), R: b(), To: c(), A: blockOf(breakOf()), B: blockOf(nil)})
	for _, s := range []*api.Stmt{
		setOf(nil, b()), setOf(a(), nil), setOf(nil, nil), statementOf(nil), doOf(nil), doOf(returnOf(a()), nil), whileOf(nil), whileOf(nil, breakOf()), whileOf(a(), nil), ifOf(nil, blockOf(returnOf(nil)), nil), ifOf(a(), blockOf(nil), nil), ifOf(a(), nil, blockOf(nil)), ifOf(a(), blockOf(returnOf(nil)), blockOf(returnOf(nil), nil)),
		forOf("i", nil, b()), forOf("i", a(), nil), forOf("i", nil, nil), forOf("i", a(), b(), nil), tryOf("e", blockOf(nil), nil), tryOf("e", nil, blockOf(nil)), localFunctionOf("f", nil),
	} {
		own(s)
	}
	for kind, e := range append(eachExpr(), &api.Expr{}, &api.Expr{Kind: 100}, callOf(funcOf([]string{"x", "x"})), tableOf(nil, unOf(nil))) {
		if e == nil {
			continue
		}
		if kind != api.ExName && kind != api.ExIndex {
			add(api.ErrForm, setOf(e, b()), &e.Line)
		}
		if e.Kind != api.ExCall {
			add(api.ErrForm, statementOf(e), &e.Line)
		}
		if kind != api.ExFunc {
			add(api.ErrForm, localFunctionOf("f", e), &e.Line)
		}
	}
	for _, w := range wrongExprs() {
		add(w.code, setOf(a(), w.expr), w.line)
	}
	for _, w := range wrongExprs() {
		if w.expr.Kind == api.ExFunc {
			add(w.code, localFunctionOf("f", w.expr), w.line)
		}
	}
	return l
}

// aroundExprs are trees in which two expressions stand, the first one of which comes first.
func aroundExprs() []func(e, f *api.Expr) []*api.Stmt {
	return []func(e, f *api.Expr) []*api.Stmt{
		func(e, f *api.Expr) []*api.Stmt { return blockOf(localOf("x", e), localOf("y", f)) },
		func(e, f *api.Expr) []*api.Stmt { return blockOf(setOf(indexOf(e, f), a())) },
		func(e, f *api.Expr) []*api.Stmt { return blockOf(setOf(indexOf(a(), e), f)) },
		func(e, f *api.Expr) []*api.Stmt { return blockOf(setOf(a(), e), setOf(b(), f)) },
		func(e, f *api.Expr) []*api.Stmt { return blockOf(statementOf(callOf(e, f))) },
		func(e, f *api.Expr) []*api.Stmt { return blockOf(statementOf(callOf(a(), e, f))) },
		func(e, f *api.Expr) []*api.Stmt { return blockOf(whileOf(e, returnOf(f))) },
		func(e, f *api.Expr) []*api.Stmt { return blockOf(whileOf(a(), returnOf(e)), returnOf(f)) },
		func(e, f *api.Expr) []*api.Stmt { return blockOf(ifOf(e, blockOf(returnOf(f)), nil)) },
		func(e, f *api.Expr) []*api.Stmt { return blockOf(ifOf(e, nil, blockOf(ifOf(f, nil, nil)))) },
		func(e, f *api.Expr) []*api.Stmt {
			return blockOf(ifOf(a(), blockOf(returnOf(e)), blockOf(returnOf(f))))
		},
		func(e, f *api.Expr) []*api.Stmt { return blockOf(ifOf(a(), nil, blockOf(returnOf(e))), returnOf(f)) },
		func(e, f *api.Expr) []*api.Stmt { return blockOf(forOf("i", e, f)) },
		func(e, f *api.Expr) []*api.Stmt { return blockOf(forOf("i", a(), e, returnOf(f))) },
		func(e, f *api.Expr) []*api.Stmt { return blockOf(forOf("i", a(), b(), returnOf(e)), returnOf(f)) },
		func(e, f *api.Expr) []*api.Stmt {
			return blockOf(tryOf("e", blockOf(returnOf(e)), blockOf(returnOf(f))))
		},
		func(e, f *api.Expr) []*api.Stmt { return blockOf(tryOf("e", nil, blockOf(returnOf(e))), returnOf(f)) },
		func(e, f *api.Expr) []*api.Stmt { return blockOf(doOf(doOf(returnOf(e)), returnOf(f))) },
		func(e, f *api.Expr) []*api.Stmt {
			return blockOf(localFunctionOf("f", funcOf(nil, returnOf(e), returnOf(f))))
		},
		func(e, f *api.Expr) []*api.Stmt { return blockOf(returnOf(indexOf(e, f))) },
		func(e, f *api.Expr) []*api.Stmt { return blockOf(returnOf(binOf(e, f))) },
		func(e, f *api.Expr) []*api.Stmt { return blockOf(returnOf(binOf(unOf(e), f))) },
		func(e, f *api.Expr) []*api.Stmt { return blockOf(returnOf(tableOf(e, f))) },
		func(e, f *api.Expr) []*api.Stmt { return blockOf(returnOf(tableOf(nil, e, f, a()))) },
		func(e, f *api.Expr) []*api.Stmt { return blockOf(returnOf(tableOf(a(), e, nil, f))) },
		func(e, f *api.Expr) []*api.Stmt { return blockOf(returnOf(callOf(funcOf(nil, returnOf(e)), f))) },
	}
}

// aroundStmts are the same of statements; in none of them are these in a loop of their function.
func aroundStmts() []func(s, z *api.Stmt) []*api.Stmt {
	return []func(s, z *api.Stmt) []*api.Stmt{
		func(s, z *api.Stmt) []*api.Stmt { return blockOf(s, z) },
		func(s, z *api.Stmt) []*api.Stmt { return blockOf(localOf("x", a()), s, localOf("x", b()), z) },
		func(s, z *api.Stmt) []*api.Stmt { return blockOf(doOf(s, z)) },
		func(s, z *api.Stmt) []*api.Stmt { return blockOf(doOf(doOf(s)), z) },
		func(s, z *api.Stmt) []*api.Stmt { return blockOf(ifOf(a(), blockOf(s), blockOf(z))) },
		func(s, z *api.Stmt) []*api.Stmt {
			return blockOf(ifOf(a(), nil, blockOf(ifOf(b(), blockOf(s), blockOf(z)))))
		},
		func(s, z *api.Stmt) []*api.Stmt { return blockOf(ifOf(a(), nil, blockOf(s)), z) },
		func(s, z *api.Stmt) []*api.Stmt { return blockOf(tryOf("e", blockOf(s), blockOf(z))) },
		func(s, z *api.Stmt) []*api.Stmt { return blockOf(tryOf("e", nil, blockOf(s)), z) },
		func(s, z *api.Stmt) []*api.Stmt { return blockOf(whileOf(a(), breakOf()), s, z) },
		func(s, z *api.Stmt) []*api.Stmt { return blockOf(forOf("i", a(), b(), breakOf()), s, z) },
		func(s, z *api.Stmt) []*api.Stmt { return blockOf(whileOf(funcOf(nil, s), z)) },
		func(s, z *api.Stmt) []*api.Stmt { return blockOf(whileOf(a(), returnOf(funcOf(nil, s)), z)) },
		func(s, z *api.Stmt) []*api.Stmt { return blockOf(forOf("i", a(), funcOf(nil, s), z)) },
		func(s, z *api.Stmt) []*api.Stmt { return blockOf(forOf("i", a(), b(), returnOf(funcOf(nil, s)), z)) },
		func(s, z *api.Stmt) []*api.Stmt { return blockOf(localFunctionOf("f", funcOf([]string{"p"}, s, z))) },
		func(s, z *api.Stmt) []*api.Stmt { return blockOf(returnOf(binOf(funcOf(nil, s), funcOf(nil, z)))) },
		func(s, z *api.Stmt) []*api.Stmt {
			return blockOf(whileOf(a(), whileOf(b(), breakOf()), breakOf()), returnOf(funcOf(nil, whileOf(a(), breakOf()), s)), z)
		},
	}
}

// Wherever what is wrong stands, and whatever is wrong behind it: it is told, at the line of the nearest part.
func TestTheFirstWrongExpression(t *testing.T) {
	for i := range wrongExprs() {
		for j := range wrongExprs() {
			for _, around := range aroundExprs() {
				first, second := wrongExprs()[i], wrongExprs()[j]
				l := lined(around(first.expr, second.expr)...)
				refuses(t, first.code, *first.line, l...)
			}
		}
		for _, around := range aroundExprs() {
			only := wrongExprs()[i]
			l := lined(around(a(), only.expr)...)
			refuses(t, only.code, *only.line, l...)
		}
	}
}

func TestTheFirstWrongStatement(t *testing.T) {
	stop := wrong{stmt: breakOf(), code: api.ErrBreak}
	stop.line = &stop.stmt.Line
	all := append(wrongStmts(), stop)
	for i, second := range append(wrongStmts(), stop) {
		if i%7 > 0 {
			continue // each one would be the same again
		}
		for _, first := range all {
			for _, around := range aroundStmts() {
				if first.stmt != second.stmt {
					l := lined(around(first.stmt, second.stmt)...)
					refuses(t, first.code, *first.line, l...)
				}
			}
		}
	}
	for _, only := range wrongStmts() {
		for _, around := range aroundStmts() {
			l := lined(around(doOf(), only.stmt)...)
			refuses(t, only.code, *only.line, l...)
		}
	}
}

// The line of what isn't there is that of what is around it, not of what is ahead.
func TestStatementsThatAreNotThere(t *testing.T) {
	refuses(t, api.ErrForm, 0, nil)
	refuses(t, api.ErrForm, 0, append(lined(doOf(returnOf(a()))), nil)...)
	refuses(t, api.ErrForm, 0, append([]*api.Stmt{nil}, lined(breakOf())...)...)
	for _, around := range []*api.Stmt{doOf(nil), doOf(localOf("x", a()), nil, breakOf()), ifOf(a(), blockOf(returnOf(b())), blockOf(returnOf(c()), nil)), whileOf(binOf(a(), b()), breakOf(), nil), forOf("i", a(), b(), doOf(breakOf()), nil), tryOf("e", blockOf(returnOf(a())), blockOf(doOf(), nil))} {
		lined(around)
		refuses(t, api.ErrForm, 100, around)
		refuses(t, api.ErrForm, 100, doOf(doOf(), around))
		refuses(t, api.ErrForm, 100, returnOf(funcOf(nil, around)))
	}
	for _, f := range []*api.Expr{funcOf(nil, nil), funcOf([]string{"p"}, doOf(), nil), funcOf(nil, returnOf(unOf(a())), nil)} {
		f.Line = 7
		refuses(t, api.ErrForm, 7, returnOf(f))
		refuses(t, api.ErrForm, 7, localFunctionOf("f", f))
	}
}

func TestBreaks(t *testing.T) {
	for _, l := range [][]*api.Stmt{
		blockOf(whileOf(a(), breakOf(), breakOf())), blockOf(forOf("i", a(), b(), breakOf())), blockOf(whileOf(a(), doOf(breakOf()), ifOf(a(), blockOf(breakOf()), blockOf(breakOf())), tryOf("e", blockOf(breakOf()), blockOf(breakOf())), breakOf())),
		blockOf(whileOf(a(), whileOf(a(), breakOf()), breakOf())), blockOf(forOf("i", a(), b(), whileOf(a()), forOf("j", a(), b()), breakOf())), blockOf(whileOf(a(), localOf("f", funcOf(nil, whileOf(a(), breakOf()))), breakOf())),
	} {
		if _, err := Resolve(l); err != nil {
			t.Error(err)
		}
	}
	for _, l := range [][]*api.Stmt{
		blockOf(breakOf()), blockOf(doOf(), breakOf()), blockOf(whileOf(a()), breakOf()), blockOf(forOf("i", a(), b(), breakOf()), breakOf()), blockOf(ifOf(a(), blockOf(whileOf(b()), breakOf()), nil)),
		blockOf(whileOf(a(), returnOf(funcOf(nil, breakOf())))), blockOf(forOf("i", a(), b(), localFunctionOf("f", funcOf(nil, doOf(breakOf()))))), blockOf(whileOf(funcOf(nil, breakOf()))), blockOf(whileOf(a(), returnOf(funcOf(nil, whileOf(b(), breakOf()), breakOf())))), blockOf(returnOf(funcOf(nil, whileOf(a()))), breakOf()),
	} {
		var stop *int
		lined(l...)
		for _, line := range stmtLines(l...) {
			stop = line
		}
		refuses(t, api.ErrBreak, *stop, l...)
	}
}

// R2: an error is a *api.Fault, of one number.
func TestErrors(t *testing.T) {
	for _, x := range []struct {
		code api.Errno
		s    *api.Stmt
	}{{api.ErrForm, nil}, {api.ErrLong, returnOf(funcOf(make([]string, 21)))}, {api.ErrTwice, returnOf(funcOf(make([]string, 2)))}, {api.ErrBreak, breakOf()}} {
		scopes, err := Resolve(blockOf(x.s))
		if _, is := err.(*api.Fault); scopes != nil || !is {
			t.Errorf("%v, %v", scopes, err)
		}
		for code := api.OK; code <= api.ErrCode; code++ {
			if errors.Is(err, code) != (code == x.code) {
				t.Errorf("%v is %d", err, code)
			}
		}
	}
}

func TestLinesAsTheyAre(t *testing.T) {
	for _, line := range []int{0, -1, 5, math.MaxInt, math.MinInt} {
		refuses(t, api.ErrBreak, line, &api.Stmt{Kind: api.StBreak, Line: line})
		refuses(t, api.ErrForm, line, &api.Stmt{Line: line})
		refuses(t, api.ErrForm, line, returnOf(&api.Expr{Line: line}))
	}
}
