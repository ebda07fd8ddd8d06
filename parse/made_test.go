package parse

import (
	"errors"
	"reflect"
	"slices"
	"strconv"
	"strings"
	"testing"

	"tallow/api"
	"tallow/lex"
	"tallow/quote"
)

// maker makes statements, and writes them as a source in one of the ways in which they can be written. It sets the parts' lines as it writes.
type maker struct {
	draw  func(below int) int
	text  strings.Builder
	line  int
	open  int
	wrong int // the line of the first word with which too many things are open; -1: there is none
}

func newMaker(draw func(below int) int) *maker { return &maker{draw: draw, wrong: -1} }

func (m *maker) one(texts ...string) string { return texts[m.draw(len(texts))] }

func (m *maker) often() int { return []int{0, 0, 1, 1, 1, 2, 3}[m.draw(7)] }

// oftenIn is often, but at least once where something deep is to come.
func (m *maker) oftenIn(deep int) int { return max(m.often(), min(deep/4, 1)) }

// Making. Of an expression one part may be deep, the others are small.

func (m *maker) name() string { return m.one("a", "b", "c", "_", "x9", "End", "out") }

func (m *maker) small() *api.Expr {
	switch m.draw(7) {
	case 0:
		return nilOf(0)
	case 1:
		return trueOf(0)
	case 2:
		return falseOf(0)
	case 3:
		return intOf(0, int64(m.draw(1000))<<m.draw(54))
	case 4:
		return strOf(0, m.one("", "s", "x", "end", "a b", "\"\n\xff", "..", "9"))
	default:
		return nameOf(0, m.name())
	}
}

// beside answers how deep a small part beside a deep one may be.
func (m *maker) beside(deep int) int { return m.draw(max(1, min(deep, 3))) }

func (m *maker) expr(deep int) *api.Expr {
	if deep <= 0 {
		return m.small()
	}
	switch m.draw(9) {
	case 0:
		return m.index(deep)
	case 1:
		return m.call(deep)
	case 2:
		f := funcOf(0, nil, m.block(deep-1)...)
		for range m.often() {
			f.Params = append(f.Params, m.name())
		}
		return f
	case 3:
		return unOf(0, m.one(ahead()...), m.expr(deep-1))
	case 4:
		return m.table(deep)
	case 5:
		return binOf(0, m.small(), "..", m.expr(deep-1))
	case 6:
		return binOf(0, m.expr(m.beside(deep)), m.one(operators()...), m.expr(deep-1))
	default:
		return binOf(0, m.expr(deep-1), m.one(operators()...), m.expr(m.beside(deep)))
	}
}

func (m *maker) index(deep int) *api.Expr {
	if m.draw(2) == 0 {
		return indexOf(0, m.expr(deep-1), m.small())
	}
	return indexOf(0, m.small(), m.expr(deep-1))
}

func (m *maker) call(deep int) *api.Expr {
	if m.draw(2) == 0 {
		return callOf(0, m.expr(deep-1), m.smalls(m.often())...)
	}
	args := append(append(m.smalls(m.often()), m.expr(deep-1)), m.smalls(m.often())...)
	return callOf(0, m.small(), args...)
}

func (m *maker) smalls(n int) []*api.Expr {
	var l []*api.Expr
	for range n {
		l = append(l, m.small())
	}
	return l
}

func (m *maker) table(deep int) *api.Expr {
	t := tableOf(0)
	for range m.oftenIn(deep) {
		deep--
		item, key := m.expr(deep), (*api.Expr)(nil)
		switch m.draw(4) {
		case 0:
			key = m.small()
		case 1:
			key = strOf(0, m.name())
		case 2:
			key, item = m.expr(deep), m.small()
		}
		t.Keys, t.Args = append(t.Keys, key), append(t.Args, item)
		deep = m.beside(deep)
	}
	return t
}

func (m *maker) block(deep int) []*api.Stmt {
	var b []*api.Stmt
	if deep <= 0 {
		return b
	}
	for range m.oftenIn(deep) {
		if s := m.stmt(deep); s.Kind != api.StReturn {
			// What begins with a parenthesis would go on with what is ahead.
			b = append(b, breakOf(0), s)
		}
		deep = m.beside(deep)
	}
	if m.draw(4) == 0 {
		b = append(b, returnOf(0, m.expr(deep)))
	}
	return b
}

func (m *maker) stmt(deep int) *api.Stmt {
	s := &api.Stmt{Kind: 1 + m.draw(api.StFunc)}
	if deep > 3 && (s.Kind == api.StReturn || s.Kind == api.StBreak) {
		s.Kind = api.StDo
	}
	deep--
	switch s.Kind {
	case api.StLocal:
		if s.Name = m.name(); deep > 3 || m.draw(3) > 0 {
			s.R = m.expr(deep)
		}
	case api.StSet:
		if s.L, s.R = nameOf(0, m.name()), m.expr(deep); m.draw(2) == 0 {
			s.L, s.R = m.index(deep), m.expr(m.beside(deep))
		}
	case api.StCall:
		s.R = m.call(deep)
	case api.StDo:
		s.A = m.block(deep)
	case api.StWhile:
		s.R, s.A = m.expr(m.beside(deep)), m.block(deep)
	case api.StIf:
		s.R, s.A, s.B = m.expr(m.beside(deep)), m.block(deep), m.block(m.beside(deep))
		if m.draw(2) == 0 {
			s.B = []*api.Stmt{{Kind: api.StIf, R: m.expr(m.beside(deep)), A: m.block(m.beside(deep)), B: m.block(deep)}}
		}
	case api.StFor:
		s.Name, s.R, s.To, s.A = m.name(), m.expr(m.beside(deep)), m.expr(m.beside(deep)), m.block(deep)
	case api.StTry:
		s.Name, s.A, s.B = m.name(), m.block(deep), m.block(m.beside(deep))
	case api.StFunc:
		s.Name, s.R = m.name(), funcOf(0, []string{"p"}, m.block(deep)...)
	}
	return s
}

// Writing.

// word writes a word, and something behind it that parts it from the next one; it answers the line on which it stands.
func (m *maker) word(text string) int {
	line := m.line
	m.text.WriteString(text)
	gap := m.one(" ", " ", " ", " ", " ", "\n", "\t ", " -- (\n", "\n\n")
	m.line += strings.Count(gap, "\n")
	m.text.WriteString(gap)
	return line
}

func (m *maker) words(texts ...string) {
	for _, w := range texts {
		m.word(w)
	}
}

// begin writes a word that opens something.
func (m *maker) begin(text string) int {
	line := m.word(text)
	if m.open++; m.open > 64 && m.wrong < 0 {
		m.wrong = line
	}
	return line
}

func (m *maker) end(texts ...string) {
	m.open--
	m.words(texts...)
}

func (m *maker) inside(first, last string, write func()) int {
	line := m.begin(first)
	write()
	m.end(last)
	return line
}

// strengthOf tells how strong an expression is; posts are the strongest ones.
func strengthOf(e *api.Expr) int {
	switch e.Kind {
	case api.ExBin:
		return levelOf(e.Text)
	case api.ExUn:
		return len(levels())
	default:
		return len(levels()) + 1
	}
}

// put writes an expression where none that is weaker than least may stand without parentheses.
func (m *maker) put(e *api.Expr, least int) {
	if strengthOf(e) < least || m.draw(12) == 0 {
		m.inside("(", ")", func() { m.put(e, 0) })
		return
	}
	m.bare(e)
}

func (m *maker) bare(e *api.Expr) {
	e.Line = m.line
	switch e.Kind {
	case api.ExNil:
		m.word("nil")
	case api.ExTrue:
		m.word("true")
	case api.ExFalse:
		m.word("false")
	case api.ExInt:
		m.word(strconv.FormatInt(e.N, 10))
	case api.ExStr:
		m.word(quote.Quote(e.Text))
	case api.ExName:
		m.word(e.Text)
	case api.ExIndex:
		m.put(e.L, len(levels())+1)
		m.putIndex(e)
	case api.ExCall:
		m.put(e.L, len(levels())+1)
		e.Line = m.inside("(", ")", func() { m.list(len(e.Args), func(i int) { m.put(e.Args[i], 0) }) })
	case api.ExFunc:
		e.Line = m.begin("function")
		m.putBody(e)
	case api.ExUn:
		e.Line = m.begin(e.Text)
		m.put(e.R, strengthOf(e))
		m.end()
	case api.ExBin:
		m.putBin(e)
	case api.ExTable:
		e.Line = m.inside("{", "}", func() { m.list(len(e.Args), func(i int) { m.putItem(e.Keys[i], e.Args[i]) }) })
	}
}

func (m *maker) list(n int, put func(i int)) {
	for i := range n {
		if i > 0 {
			m.word(",")
		}
		put(i)
	}
}

func (m *maker) putIndex(e *api.Expr) {
	if m.mayBeBare(e.R) {
		e.Line = m.word(".")
		e.R.Line = m.word(e.R.Text)
		return
	}
	e.Line = m.inside("[", "]", func() { m.put(e.R, 0) })
}

// mayBeBare tells, of a string that is a name, now this and now that.
func (m *maker) mayBeBare(e *api.Expr) bool {
	tokens, err := lex.Tokens(e.Text)
	return e.Kind == api.ExStr && err == nil && tokens[0].Kind == api.TokName && tokens[0].Text == e.Text && m.draw(2) == 0
}

func (m *maker) putItem(key, item *api.Expr) {
	switch {
	case key == nil:
	case m.mayBeBare(key):
		key.Line = m.word(key.Text)
		m.word("=")
	default:
		m.inside("[", "]", func() { m.put(key, 0) })
		m.word("=")
	}
	m.put(item, 0)
}

func (m *maker) putBin(e *api.Expr) {
	if e.Text == ".." {
		m.put(e.L, strengthOf(e)+1)
		e.Line = m.begin(e.Text)
		m.put(e.R, strengthOf(e))
		m.end()
		return
	}
	m.put(e.L, strengthOf(e))
	e.Line = m.word(e.Text)
	m.put(e.R, strengthOf(e)+1)
}

func (m *maker) putBody(f *api.Expr) {
	m.inside("(", ")", func() { m.list(len(f.Params), func(i int) { m.word(f.Params[i]) }) })
	m.putBlock(f.Body)
	m.end("end")
}

func (m *maker) putBlock(b []*api.Stmt) {
	for _, s := range b {
		s.Line = m.line
		m.putStmt(s)
	}
}

func (m *maker) putStmt(s *api.Stmt) {
	switch s.Kind {
	case api.StLocal:
		m.words("local", s.Name)
		if s.R != nil {
			m.word("=")
			m.put(s.R, 0)
		}
	case api.StSet:
		m.putSet(s)
	case api.StCall:
		m.bare(s.R)
	case api.StDo:
		m.inside("do", "end", func() { m.putBlock(s.A) })
	case api.StWhile:
		m.word("while")
		m.put(s.R, 0)
		m.inside("do", "end", func() { m.putBlock(s.A) })
	case api.StIf:
		m.word("if")
		m.putIf(s)
	case api.StFor:
		m.words("for", s.Name, "=")
		m.put(s.R, 0)
		m.word(",")
		m.put(s.To, 0)
		m.inside("do", "end", func() { m.putBlock(s.A) })
	case api.StReturn:
		m.word("return")
		m.put(s.R, 0)
	case api.StBreak:
		m.word("break")
	case api.StTry:
		m.begin("try")
		m.putBlock(s.A)
		m.end()
		m.begin("catch")
		m.word(s.Name)
		m.putBlock(s.B)
		m.end("end")
	case api.StFunc:
		m.word("local")
		s.R.Line = m.begin("function")
		m.word(s.Name)
		m.putBody(s.R)
	}
}

func (m *maker) putSet(s *api.Stmt) {
	if s.L.Kind == api.ExName && s.R.Kind == api.ExFunc && m.draw(2) == 0 {
		s.R.Line = m.begin("function")
		s.L.Line = m.word(s.L.Text)
		m.putBody(s.R)
		return
	}
	m.bare(s.L)
	m.word("=")
	m.put(s.R, 0)
}

func (m *maker) putIf(s *api.Stmt) {
	m.put(s.R, 0)
	m.begin("then")
	m.putBlock(s.A)
	m.end()
	if len(s.B) == 1 && s.B[0].Kind == api.StIf && m.draw(4) > 0 {
		s.B[0].Line = m.word("elseif")
		m.putIf(s.B[0])
		return
	}
	if len(s.B) > 0 || m.draw(2) == 0 {
		m.inside("else", "end", func() { m.putBlock(s.B) })
		return
	}
	m.word("end")
}

// What is written is read as it was, each part with its line; or, if it is too deep, that is told where it comes to be.
func TestMadeSources(t *testing.T) {
	draw := draws()
	read, deep := 0, 0
	for range 2500 {
		m := newMaker(draw)
		b := m.block(draw(100))
		m.putBlock(b)
		text := m.text.String()
		if len(text) > api.MaxText {
			continue
		}
		if m.wrong >= 0 {
			fails(t, text, api.ErrLong, m.wrong)
			deep++
			continue
		}
		is(t, text, b...)
		read++
	}
	if read < 1000 || deep < 300 {
		t.Error(read, deep)
	}
}

// Bytes that were made worse: there are statements, or there is a fault.
func TestSpoiltSources(t *testing.T) {
	draw := draws()
	for range 3000 {
		m := newMaker(draw)
		m.putBlock(m.block(draw(20)))
		text := []byte(m.text.String())
		for range 1 + draw(3) {
			if len(text) > 0 {
				at := draw(len(text))
				text = slices.Replace(text, at, at+draw(2), byte(draw(256)))
			}
		}
		b, err := Parse(string(text))
		again, err2 := Parse(string(text))
		if !reflect.DeepEqual(b, again) || !reflect.DeepEqual(err, err2) {
			t.Errorf("%q: %v, then %v", text, err, err2)
		}
		var f *api.Fault
		if err != nil && (!errors.As(err, &f) || b != nil || f.At < 0 || f.At > strings.Count(string(text), "\n")) {
			t.Errorf("%q: %s, %v", text, tell(b), err)
		}
	}
}
