package scope

import (
	"slices"
	"strings"

	"tallow/api"
)

// The chapter once more, from its words: first what is gone through is written down as a list, by the chapter's tables; then each place of that list is looked at by itself.

// stmtRows tell what is gone through in a statement of each kind.
var stmtRows = map[int]string{
	api.StLocal:  "R? declare",
	api.StSet:    "L:name,index R",
	api.StCall:   "R:call",
	api.StDo:     "{ A }",
	api.StWhile:  "R loop{ A }loop",
	api.StIf:     "R { A } { B }",
	api.StFor:    "R To { full full declare loop{ A }loop }",
	api.StReturn: "R?",
	api.StBreak:  "break",
	api.StTry:    "{ A } { declare B }",
	api.StFunc:   "declare R:function",
}

// exprRows tell it of expressions.
var exprRows = map[int]string{
	api.ExNil:   "",
	api.ExTrue:  "",
	api.ExFalse: "",
	api.ExInt:   "",
	api.ExStr:   "",
	api.ExName:  "use",
	api.ExIndex: "L R",
	api.ExCall:  "L Args",
	api.ExFunc:  "function Params Body end",
	api.ExUn:    "R",
	api.ExBin:   "L R",
	api.ExTable: "Items",
}

var kindsByName = map[string]int{"name": api.ExName, "index": api.ExIndex, "call": api.ExCall, "function": api.ExFunc}

// event is something that the walk does.
type event struct {
	word   string
	line   int
	name   string
	params []string
}

// recorder writes down what the walk comes to, up to what is wrong wherever it stands.
type recorder struct {
	events []event
	parts  int
	over   bool
}

func (r *recorder) add(word string, line int, name string, params ...string) {
	if !r.over {
		r.events = append(r.events, event{word, line, name, params})
	}
}

func (r *recorder) wrong(line int) {
	r.add("wrong", line, "")
	r.over = true
}

func (r *recorder) part(line int) {
	r.add("part", line, "")
	r.parts++
	r.over = r.over || r.parts > 65536
}

func (r *recorder) stmts(l []*api.Stmt, around int) {
	for _, s := range l {
		switch {
		case r.over:
			return
		case s == nil:
			r.wrong(around)
		default:
			r.part(s.Line)
			r.stmt(s)
		}
	}
}

func (r *recorder) stmt(s *api.Stmt) {
	row, is := stmtRows[s.Kind]
	if !is {
		r.wrong(s.Line)
	}
	for _, word := range strings.Fields(row) {
		switch word[0] {
		case 'A':
			r.stmts(s.A, s.Line)
		case 'B':
			r.stmts(s.B, s.Line)
		case 'L':
			r.expr(word, s.L, s.Line)
		case 'R':
			r.expr(word, s.R, s.Line)
		case 'T':
			r.expr(word, s.To, s.Line)
		default:
			r.add(word, s.Line, s.Name)
		}
	}
}

// expr goes through an expression; the word may have a ? behind it, if it may be left out, or the names of kinds.
func (r *recorder) expr(word string, e *api.Expr, around int) {
	switch {
	case r.over || e == nil && strings.HasSuffix(word, "?"):
		return
	case e == nil:
		r.wrong(around)
		return
	}
	r.part(e.Line)
	if _, names, some := strings.Cut(word, ":"); some && !slices.ContainsFunc(strings.Split(names, ","), func(name string) bool { return kindsByName[name] == e.Kind }) {
		r.wrong(e.Line)
	}
	row, is := exprRows[e.Kind]
	if !is {
		r.wrong(e.Line)
	}
	for _, word := range strings.Fields(row) {
		switch word {
		case "L":
			r.expr(word, e.L, e.Line)
		case "R":
			r.expr(word, e.R, e.Line)
		case "Args":
			for _, arg := range e.Args {
				r.expr(word, arg, e.Line)
			}
		case "Items":
			r.items(e)
		case "Params":
			for _, name := range e.Params {
				r.add("declare", e.Line, name)
			}
		case "Body":
			r.stmts(e.Body, e.Line)
		default:
			r.add(word, e.Line, e.Text, e.Params...)
		}
	}
}

func (r *recorder) items(e *api.Expr) {
	if len(e.Keys) != len(e.Args) {
		r.wrong(e.Line)
		return
	}
	for i := range e.Args {
		r.expr("Key?", e.Keys[i], e.Line)
		r.expr("Arg", e.Args[i], e.Line)
	}
}

// place is what is declared somewhere, in all functions: the last one, and the place ahead of it.
type place struct {
	ahead    *place
	name     string
	function int
	decl     int // -1: a register that has no name
}

type declared struct{ function, reg int }

type used struct{ function, decl int } // decl -1: a global

// model is what was found so far.
type model struct {
	functions []int   // by number: the one around, -1 of the whole
	loops     []int   // by number
	asked     [][]int // by number: what has been used from outside
	now       int     // the function that is gone through
	place     *place
	places    []*place // behind each declaration
	ends      []*place // the places at the beginnings of what is open
	decls     []declared
	uses      []used
	parts     int
}

func (m *model) begin() {
	m.functions, m.loops, m.asked = append(m.functions, m.now), append(m.loops, 0), append(m.asked, nil)
	m.ends = append(m.ends, m.place)
	m.now = len(m.functions) - 1
}

// full tells how many registers are.
func (m *model) full() int {
	n := 0
	for p := m.place; p != nil; p = p.ahead {
		if p.function == m.now {
			n++
		}
	}
	return n
}

func (m *model) within(f, around int) bool {
	for f != around && f >= 0 {
		f = m.functions[f]
	}
	return f == around
}

// outside has f's names from outside, as numbers of what is declared.
func (m *model) outside(f int) []int {
	var l []int
	for _, u := range m.uses {
		if u.decl < 0 || !m.within(u.function, f) {
			continue
		}
		if from := m.decls[u.decl].function; from != f && m.within(f, from) && !slices.Contains(l, u.decl) {
			l = append(l, u.decl)
		}
	}
	return l
}

func (m *model) use(name string) api.Errno {
	p := m.place
	for p != nil && (p.decl < 0 || p.name != name) {
		p = p.ahead
	}
	if p == nil {
		m.uses = append(m.uses, used{m.now, -1})
		return api.OK
	}
	m.uses = append(m.uses, used{m.now, p.decl})
	for f := m.now; f != p.function; f = m.functions[f] {
		if !slices.Contains(m.asked[f], p.decl) {
			m.asked[f] = append(m.asked[f], p.decl)
		}
		if len(m.asked[f]) > 60 {
			return api.ErrLong
		}
	}
	return api.OK
}

func (m *model) declare(name string) api.Errno {
	if m.full()+1 > 100 {
		return api.ErrLong
	}
	m.decls = append(m.decls, declared{m.now, m.full()})
	m.place = &place{m.place, name, m.now, len(m.decls) - 1}
	m.places = append(m.places, m.place)
	return api.OK
}

func (m *model) function(params []string) api.Errno {
	if len(m.functions)+1 > 256 || len(params) > 20 {
		return api.ErrLong
	}
	alike := map[string]int{}
	for _, name := range params {
		alike[name]++
	}
	if len(alike) < len(params) {
		return api.ErrTwice
	}
	m.begin()
	return api.OK
}

func (m *model) step(e event) api.Errno {
	last := len(m.ends) - 1
	switch e.word {
	case "wrong":
		return api.ErrForm
	case "part":
		if m.parts++; m.parts > 65536 {
			return api.ErrLong
		}
	case "declare":
		return m.declare(e.name)
	case "use":
		return m.use(e.name)
	case "full":
		m.place = &place{m.place, "", m.now, -1}
	case "break":
		if m.loops[m.now] == 0 {
			return api.ErrBreak
		}
	case "function":
		return m.function(e.params)
	case "{", "loop{":
		m.ends = append(m.ends, m.place)
		m.loops[m.now] += len(e.word) / 5
	case "}", "}loop":
		m.place, m.ends = m.ends[last], m.ends[:last]
		m.loops[m.now] -= len(e.word) / 5
	case "end":
		m.place, m.ends, m.now = m.ends[last], m.ends[:last], m.functions[m.now]
	}
	return api.OK
}

func (m *model) boxed(decl int) bool {
	return slices.ContainsFunc(m.uses, func(u used) bool { return u.decl == decl && u.function != m.decls[decl].function })
}

// scope answers a function's scope; outside has its names from outside, around those of the function around it.
func (m *model) scope(f int, outside, around []int) api.Scope {
	var s api.Scope
	for _, u := range m.uses {
		switch {
		case u.function != f:
		case u.decl < 0:
			s.Uses = append(s.Uses, api.Use{At: api.AtGlobal})
		case m.decls[u.decl].function == f:
			s.Uses = append(s.Uses, api.Use{At: api.AtLocal, Index: m.decls[u.decl].reg, Boxed: m.boxed(u.decl)})
		default:
			s.Uses = append(s.Uses, api.Use{At: api.AtUp, Index: slices.Index(outside, u.decl)})
		}
	}
	for i, d := range m.decls {
		if d.function == f {
			s.Decls = append(s.Decls, api.Decl{Reg: d.reg, Boxed: m.boxed(i)})
		}
	}
	for _, decl := range outside {
		if d := m.decls[decl]; d.function == m.functions[f] {
			s.Ups = append(s.Ups, api.Up{Local: true, Index: d.reg})
		} else {
			s.Ups = append(s.Ups, api.Up{Index: slices.Index(around, decl)})
		}
	}
	return s
}

// modelOf answers what was found in statements, or the first fault.
func modelOf(l []*api.Stmt) (*model, *api.Fault) {
	var r recorder
	r.stmts(l, 0)
	m := &model{now: -1}
	m.begin()
	for _, e := range r.events {
		if code := m.step(e); code != api.OK {
			return nil, &api.Fault{Code: code, At: e.line}
		}
	}
	return m, nil
}

func (m *model) scopes() []api.Scope {
	var l []api.Scope
	var outside [][]int
	for f, around := range m.functions {
		outside = append(outside, m.outside(f))
		l = append(l, m.scope(f, outside[f], outside[max(around, 0)]))
	}
	return l
}
