package scope

import (
	"errors"
	"slices"
	"testing"

	"tallow/api"
)

// draws answers numbers by chance, the same each time.
func draws() func(below int) int {
	bits := uint64(88172645463325252)
	return func(below int) int {
		bits ^= bits << 13
		bits ^= bits >> 7
		bits ^= bits << 17
		return int(bits % uint64(below))
	}
}

// maker makes trees.
type maker struct {
	draw  func(below int) int
	names []string
	loops int // around what is made now, in its function
}

func (m *maker) name() string { return m.names[m.draw(len(m.names))] }

func (m *maker) small() *api.Expr {
	if m.draw(4) == 0 {
		return &api.Expr{Kind: api.ExNil + m.draw(5)}
	}
	return nameOf(m.name())
}

// expr makes an expression that is not much deeper than deep.
func (m *maker) expr(deep int) *api.Expr {
	if deep <= 0 {
		return m.small()
	}
	deep -= 1 + m.draw(3)
	switch m.draw(8) {
	case 0:
		return indexOf(m.expr(deep), m.expr(deep))
	case 1:
		return callOf(m.expr(deep), m.exprs(deep)...)
	case 2:
		return unOf(m.expr(deep))
	case 3:
		return binOf(m.expr(deep), m.expr(deep))
	case 4:
		t := tableOf()
		for _, e := range m.exprs(deep) {
			t.Keys, t.Args = append(t.Keys, []*api.Expr{nil, m.expr(deep - 1)}[m.draw(2)]), append(t.Args, e)
		}
		return t
	default:
		return m.function(deep)
	}
}

func (m *maker) function(deep int) *api.Expr {
	f, loops := funcOf(nil), m.loops
	for range m.draw(4) {
		if name := m.name(); !slices.Contains(f.Params, name) {
			f.Params = append(f.Params, name)
		}
	}
	m.loops = 0
	f.Body = m.stmts(deep)
	m.loops = loops
	return f
}

func (m *maker) exprs(deep int) []*api.Expr {
	var l []*api.Expr
	for range m.draw(4) {
		l = append(l, m.expr(deep))
	}
	return l
}

func (m *maker) stmts(deep int) []*api.Stmt {
	var l []*api.Stmt
	if deep <= 0 {
		return l
	}
	for range m.draw(5) {
		l = append(l, m.stmt(deep-1-m.draw(3)))
	}
	return l
}

func (m *maker) loop(deep int) []*api.Stmt {
	m.loops++
	defer func() { m.loops-- }()
	return m.stmts(deep)
}

func (m *maker) stmt(deep int) *api.Stmt {
	switch m.draw(12) {
	case 0, 1:
		return localOf(m.name(), []*api.Expr{nil, m.expr(deep)}[m.draw(2)])
	case 2:
		return setOf(nameOf(m.name()), m.expr(deep))
	case 3:
		return setOf(indexOf(m.expr(deep), m.expr(deep)), m.expr(deep))
	case 4:
		return statementOf(callOf(m.expr(deep), m.exprs(deep)...))
	case 5:
		return doOf(m.stmts(deep)...)
	case 6:
		return whileOf(m.expr(deep), m.loop(deep)...)
	case 7:
		return ifOf(m.expr(deep), m.stmts(deep), m.stmts(deep))
	case 8:
		return forOf(m.name(), m.expr(deep), m.expr(deep), m.loop(deep)...)
	case 9:
		return tryOf(m.name(), m.stmts(deep), m.stmts(deep))
	case 10:
		if m.loops > 0 {
			return breakOf()
		}
		return returnOf(m.small())
	default:
		return localFunctionOf(m.name(), m.function(deep))
	}
}

// crowd makes a tree in which registers, or names from outside, are about as many as may be.
func (m *maker) crowd() []*api.Stmt {
	m.names = numbered(64 + m.draw(60))
	l := localsOf(m.names[:min(len(m.names), 60+m.draw(40))]...)
	f := funcOf(nil, localsOf(numbered(m.draw(3))...)...)
	for range 2 + m.draw(4) {
		inner := funcOf(nil, usesOf(m.names[m.draw(len(m.names)-33):][:24+m.draw(10)]...)...)
		f.Body = append(append(f.Body, returnOf(inner)), m.stmts(3)...)
	}
	l = append(l, m.stmts(5)...)
	return append(append(l, returnOf(f)), m.stmts(6)...)
}

func (m *maker) tree() []*api.Stmt {
	if m.draw(8) == 0 {
		return m.crowd()
	}
	m.names = []string{"a", "b", "c", "d", ""}[:2+m.draw(4)]
	for {
		if l := m.stmts(5 + m.draw(8)); len(stmtLines(l...)) >= 10 {
			return l
		}
	}
}

// nodes gathers all statements and expressions of a tree, of which none is there twice.
type nodes struct {
	stmts []*api.Stmt
	exprs []*api.Expr
}

func (n *nodes) addStmts(l []*api.Stmt) {
	for _, s := range l {
		n.stmts = append(n.stmts, s)
		n.addExprs([]*api.Expr{s.L, s.R, s.To})
		n.addStmts(s.A)
		n.addStmts(s.B)
	}
}

func (n *nodes) addExprs(l []*api.Expr) {
	for _, e := range l {
		if e == nil {
			continue
		}
		n.exprs = append(n.exprs, e)
		n.addExprs([]*api.Expr{e.L, e.R})
		n.addExprs(e.Keys)
		n.addExprs(e.Args)
		n.addStmts(e.Body)
	}
}

// spoil makes a few parts of a tree other ones: now ones that make no difference, now ones that are faults, or are parts around them.
func (m *maker) spoil(l []*api.Stmt) {
	var n nodes
	n.addStmts(l)
	for range 1 + m.draw(3) {
		m.spoilOne(n)
	}
}

func (m *maker) spoilOne(n nodes) {
	e, s := n.exprs[m.draw(len(n.exprs))], n.stmts[m.draw(len(n.stmts))]
	other := []*api.Expr{nil, nameOf("a"), {Line: 7}, n.exprs[m.draw(len(n.exprs))]}[m.draw(4)]
	others := blockOf([]*api.Stmt{nil, {Line: 8}, at(9, breakOf()), n.stmts[m.draw(len(n.stmts))]}[m.draw(4)])
	switch {
	case m.draw(2) == 0:
		m.spoilStmt(s, other, others)
	case e.Kind == api.ExFunc:
		m.spoilFunction(e, others)
	default:
		m.spoilExpr(e, other)
	}
}

func (m *maker) spoilStmt(s *api.Stmt, other *api.Expr, others []*api.Stmt) {
	switch m.draw(7) {
	case 0:
		s.Kind = m.draw(13)
	case 1:
		s.L = other
	case 2:
		s.R = other
	case 3:
		s.To = other
	case 4:
		s.A = append(s.A, others...)
	case 5:
		s.A = append(others, s.A...)
	default:
		s.B = append(s.B, others...)
	}
}

func (m *maker) spoilExpr(e, other *api.Expr) {
	switch m.draw(5) {
	case 0:
		e.Kind = m.draw(14)
	case 1:
		e.L = other
	case 2:
		e.R = other
	case 3:
		e.Args = append(e.Args, other)
	default:
		e.Keys = append(e.Keys, other)
	}
}

func (m *maker) spoilFunction(e *api.Expr, others []*api.Stmt) {
	switch m.draw(3) {
	case 0:
		e.Params = append([]string{m.name(), m.name()}, e.Params...)
	case 1:
		e.Params = numbered(19 + m.draw(3))
	default:
		e.Body = append(e.Body, others...)
	}
}

// answers wants of Resolve what the model tells, and answers that.
func answers(t *testing.T, l []*api.Stmt) (*model, api.Errno) {
	t.Helper()
	m, want := modelOf(l)
	scopes, err := Resolve(l)
	if want != nil {
		var f *api.Fault
		if scopes != nil || !errors.As(err, &f) || *f != *want {
			t.Errorf("%d scopes, %v, want %v", len(scopes), err, want)
		}
		return nil, want.Code
	}
	if told, want := allTold(scopes), allTold(m.scopes()); err != nil || !slices.Equal(told, want) {
		t.Errorf("%q, %v, want %q", told, err, want)
	}
	return m, api.OK
}

// P7.2

// registers has the register of all that is declared, as the scopes tell it.
func registers(m *model, scopes []api.Scope) []int {
	come := make([]int, len(scopes))
	var l []int
	for _, d := range m.decls {
		l = append(l, scopes[d.function].Decls[come[d.function]].Reg)
		come[d.function]++
	}
	return l
}

// follows wants that who follows Ups from each use outwards comes, through each function, to the register of what it means.
func follows(t *testing.T, m *model, scopes []api.Scope) {
	t.Helper()
	regs, come := registers(m, scopes), make([]int, len(scopes))
	for _, u := range m.uses {
		f, at := u.function, scopes[u.function].Uses[come[u.function]]
		come[u.function]++
		if u.decl < 0 {
			continue
		}
		up := api.Up{Local: at.At == api.AtLocal, Index: at.Index}
		for !up.Local && f != m.decls[u.decl].function {
			up = scopes[f].Ups[up.Index]
			f = m.functions[f]
		}
		if !up.Local || f != m.decls[u.decl].function || up.Index != regs[u.decl] {
			t.Errorf("%q: one comes to %+v of %d", allTold(scopes), up, f)
		}
	}
}

// isApart wants that no two that are declared at one place have one register.
func isApart(t *testing.T, m *model, scopes []api.Scope) {
	t.Helper()
	regs := registers(m, scopes)
	for _, here := range m.places {
		taken := map[int]int{}
		for p := here; p != nil; p = p.ahead {
			if p.decl >= 0 && p.function == here.function {
				taken[regs[p.decl]]++
			}
		}
		for reg, n := range taken {
			if n > 1 {
				t.Errorf("%q: %d of them have %d", allTold(scopes), n, reg)
			}
		}
	}
}

func TestMadeTrees(t *testing.T) {
	m := maker{draw: draws()}
	often := map[api.Errno]int{}
	for range 2000 {
		l := lined(m.tree()...)
		found, code := answers(t, l)
		if often[code]++; code == api.OK {
			scopes, _ := Resolve(l)
			follows(t, found, scopes)
			isApart(t, found, scopes)
		}
	}
	if often[api.OK] < 1500 || often[api.ErrLong] < 50 {
		t.Error(often)
	}
}

func TestSpoiltTrees(t *testing.T) {
	m := maker{draw: draws()}
	often := map[api.Errno]int{}
	for range 3000 {
		l := lined(m.tree()...)
		m.spoil(l)
		_, code := answers(t, l)
		often[code]++
	}
	for _, code := range []api.Errno{api.OK, api.ErrForm, api.ErrLong, api.ErrTwice, api.ErrBreak} {
		if often[code] < 50 {
			t.Error(often)
		}
	}
}
