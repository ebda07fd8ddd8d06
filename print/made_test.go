package print

import (
	"errors"
	"reflect"
	"slices"
	"strconv"
	"strings"
	"testing"

	"tallow/api"
	"tallow/lex"
	"tallow/parse"
	"tallow/quote"
)

// The chapter's tables, as pieces that are put one behind the other: a text, a statement, an expression, or one of these.
type (
	block     []*api.Stmt // a line feed, and the text of its statements
	grouped   struct{ e *api.Expr }
	elseif    struct{ s *api.Stmt }
	dotted    struct{ e *api.Expr } // its Text, without quotes
	following struct{ f *api.Expr } // what stands behind "function"
)

func strengthIn(e *api.Expr) int {
	switch {
	case e != nil && e.Kind == api.ExBin:
		return slices.IndexFunc(levels(), func(l []string) bool { return slices.Contains(l, e.Text) })
	case e != nil && e.Kind == api.ExUn:
		return 100
	default:
		return 101
	}
}

func groupedIf(so bool, e *api.Expr) any {
	if so {
		return grouped{e}
	}
	return e
}

func postPiece(e *api.Expr) any {
	return groupedIf(e != nil && (e.Kind == api.ExUn || e.Kind == api.ExBin || e.Kind == api.ExFunc), e)
}

func bare(e *api.Expr) bool {
	if e == nil || e.Kind != api.ExStr || lex.Reserved(e.Text) || e.Text == "" || len(e.Text) > 24 || strings.Contains("0123456789", e.Text[:1]) {
		return false
	}
	return strings.Trim(e.Text, "ABCDEFGHIJKLMNOPQRSTUVWXYZabcdefghijklmnopqrstuvwxyz0123456789_") == ""
}

func stmtPieces(s *api.Stmt) []any {
	switch s.Kind {
	case api.StLocal:
		if s.R == nil {
			return []any{"local ", s.Name}
		}
		return []any{"local ", s.Name, " = ", s.R}
	case api.StSet:
		return []any{s.L, " = ", s.R}
	case api.StCall:
		return []any{s.R}
	case api.StDo:
		return []any{"do", block(s.A), "end"}
	case api.StWhile:
		return []any{"while ", s.R, " do", block(s.A), "end"}
	case api.StIf:
		return append(append([]any{"if"}, ifPieces(s)...), "end")
	case api.StFor:
		return []any{"for ", s.Name, " = ", s.R, ", ", s.To, " do", block(s.A), "end"}
	case api.StReturn:
		if s.R == nil {
			return []any{"return"}
		}
		return []any{"return ", s.R}
	case api.StBreak:
		return []any{"break"}
	case api.StTry:
		return []any{"try", block(s.A), "catch ", s.Name, block(s.B), "end"}
	case api.StFunc:
		return []any{"local function ", s.Name, following{s.R}}
	}
	return nil
}

// ifPieces are what stands behind if, but for the end.
func ifPieces(s *api.Stmt) []any {
	head := []any{" ", s.R, " then", block(s.A)}
	switch {
	case len(s.B) == 0:
		return head
	case len(s.B) == 1 && s.B[0] != nil && s.B[0].Kind == api.StIf:
		return append(head, elseif{s.B[0]})
	default:
		return append(head, "else", block(s.B))
	}
}

func exprPieces(e *api.Expr) []any {
	switch e.Kind {
	case api.ExNil:
		return []any{"nil"}
	case api.ExTrue:
		return []any{"true"}
	case api.ExFalse:
		return []any{"false"}
	case api.ExInt:
		return []any{strconv.FormatInt(e.N, 10)}
	case api.ExStr:
		return []any{quote.Quote(e.Text)}
	case api.ExName:
		return []any{e.Text}
	case api.ExIndex:
		if bare(e.R) {
			return []any{postPiece(e.L), ".", dotted{e.R}}
		}
		return []any{postPiece(e.L), "[", e.R, "]"}
	case api.ExCall:
		l := []any{postPiece(e.L), "("}
		for i, x := range e.Args {
			l = append(l, []string{"", ", "}[min(i, 1)], x)
		}
		return append(l, ")")
	case api.ExFunc:
		return append([]any{"function"}, bodyPieces(e)...)
	case api.ExUn:
		return []any{e.Text, " ", groupedIf(e.R != nil && e.R.Kind == api.ExBin, e.R)}
	case api.ExBin:
		l, own, r := strengthIn(e.L), strengthIn(e), strengthIn(e.R)
		return []any{groupedIf(l < own || e.Text == ".." && l == own, e.L), " ", e.Text, " ", groupedIf(r < own || e.Text != ".." && r == own, e.R)}
	case api.ExTable:
		return append(append([]any{"{"}, itemPieces(e)...), "}")
	}
	return nil
}

func itemPieces(e *api.Expr) []any {
	var l []any
	for i, x := range e.Args {
		l = append(l, []string{"", ", "}[min(i, 1)])
		switch key := e.Keys[i]; {
		case key == nil:
			l = append(l, x)
		case bare(key):
			l = append(l, dotted{key}, " = ", x)
		default:
			l = append(l, "[", key, "] = ", x)
		}
	}
	return l
}

func bodyPieces(f *api.Expr) []any {
	return []any{"(", strings.Join(f.Params, ", "), ")", block(f.Body), "end"}
}

// expected answers what Print is to answer, by the chapter's tables.
func expected(l []*api.Stmt) (string, api.Errno) {
	text, e := put(l)
	if e != api.OK {
		return "", e
	}
	read, err := parse.Parse(text)
	var fault *api.Fault
	if errors.As(err, &fault) && fault.Code == api.ErrLong {
		return "", api.ErrLong
	}
	if err != nil || tell(read) != tell(l) {
		return "", api.ErrArg
	}
	return text, api.OK
}

// put puts pieces one behind the other, those that come next last in a list, and stops at the first one that is wrong.
func put(l []*api.Stmt) (string, api.Errno) {
	var text strings.Builder
	next := []any{block(l)}
	parts := 0
	push := func(pieces ...any) {
		slices.Reverse(pieces)
		next = append(next, pieces...)
	}
	part := func(is bool, pieces func() []any) api.Errno {
		if !is {
			return api.ErrArg
		}
		if parts++; parts > 65536 {
			return api.ErrLong
		}
		push(pieces()...)
		return api.OK
	}
	for len(next) > 0 {
		piece := next[len(next)-1]
		next = next[:len(next)-1]
		e := api.OK
		switch x := piece.(type) {
		case string:
			text.WriteString(x)
		case block:
			pieces := []any{"\n"}
			for _, s := range x {
				pieces = append(pieces, s, "\n")
			}
			push(pieces...)
		case grouped:
			push("(", x.e, ")")
		case *api.Stmt:
			e = part(x != nil && x.Kind >= 1 && x.Kind <= 11, func() []any { return stmtPieces(x) })
		case *api.Expr:
			e = part(x != nil && x.Kind >= 1 && x.Kind <= 12 && (x.Kind != api.ExTable || len(x.Keys) == len(x.Args)), func() []any { return exprPieces(x) })
		case elseif:
			e = part(true, func() []any { return append([]any{"elseif"}, ifPieces(x.s)...) })
		case dotted:
			e = part(true, func() []any { return []any{x.e.Text} })
		case following:
			e = part(x.f != nil && x.f.Kind == api.ExFunc, func() []any { return bodyPieces(x.f) })
		}
		if e != api.OK {
			return "", e
		}
		// The line feed ahead of the whole is none of its text.
		if text.Len() > 32769 {
			return "", api.ErrLong
		}
	}
	return text.String()[1:], api.OK
}

// Drawing.

func draws() func(below int) int {
	bits := uint64(88172645463325252)
	return func(below int) int {
		bits ^= bits << 13
		bits ^= bits >> 7
		bits ^= bits << 17
		return int(bits % uint64(below))
	}
}

// maker makes trees that have a text.
type maker struct{ draw func(below int) int }

func (m maker) one(texts ...string) string { return texts[m.draw(len(texts))] }

func (m maker) name() string { return m.one("a", "b", "c", "_", "x9", "End", "out") }

func (m maker) small() *api.Expr {
	switch m.draw(7) {
	case 0:
		return nilOf()
	case 1:
		return &api.Expr{Kind: api.ExTrue + m.draw(2)}
	case 2:
		return intOf(int64(m.draw(1000)) << m.draw(54))
	case 3:
		return strOf(m.one("", "s", "x", "end", "a b", "\"\n\xff", "..", "9"))
	default:
		return nameOf(m.name())
	}
}

// expr makes an expression that is not much deeper than deep.
func (m maker) expr(deep int) *api.Expr {
	if deep <= 0 {
		return m.small()
	}
	deep -= 1 + m.draw(3)
	switch m.draw(9) {
	case 0:
		return indexOf(m.expr(deep), m.small())
	case 1:
		return indexOf(m.expr(deep), m.expr(deep))
	case 2:
		return callOf(m.expr(deep), m.exprs(deep)...)
	case 3:
		f := funcOf(nil, m.stmts(deep)...)
		for range m.draw(3) {
			f.Params = append(f.Params, m.name())
		}
		return f
	case 4:
		return unOf(m.one(ahead()...), m.expr(deep))
	case 5:
		t := tableOf()
		for _, e := range m.exprs(deep) {
			t.Keys, t.Args = append(t.Keys, []*api.Expr{nil, strOf(m.name()), m.expr(deep - 1)}[m.draw(3)]), append(t.Args, e)
		}
		return t
	default:
		return binOf(m.expr(deep), m.one(operators()...), m.expr(deep))
	}
}

func (m maker) exprs(deep int) []*api.Expr {
	var l []*api.Expr
	for range m.draw(4) {
		l = append(l, m.expr(deep))
	}
	return l
}

func (m maker) stmts(deep int) []*api.Stmt {
	var l []*api.Stmt
	if deep <= 0 {
		return l
	}
	for range m.draw(4) {
		// A break ends what would go on with a parenthesis behind it.
		l = append(l, m.stmt(deep-1-m.draw(3)), breakOf())
	}
	if m.draw(3) == 0 {
		l = append(l, returnOf([]*api.Expr{nil, m.expr(deep)}[m.draw(2)]))
	}
	return l
}

func (m maker) stmt(deep int) *api.Stmt {
	switch m.draw(11) {
	case 0:
		return localOf(m.name(), []*api.Expr{nil, m.expr(deep)}[m.draw(2)])
	case 1:
		return setOf(nameOf(m.name()), m.expr(deep))
	case 2:
		return setOf(indexOf(m.expr(deep), m.expr(deep)), m.expr(deep))
	case 3:
		return statementOf(callOf(m.expr(deep), m.exprs(deep)...))
	case 4:
		return doOf(m.stmts(deep)...)
	case 5:
		return whileOf(m.expr(deep), m.stmts(deep)...)
	case 6:
		return ifOf(m.expr(deep), m.stmts(deep), m.stmts(deep))
	case 7:
		return ifOf(m.expr(deep), m.stmts(deep), blockOf(ifOf(m.expr(deep), m.stmts(deep), m.stmts(deep))))
	case 8:
		return forOf(m.name(), m.expr(deep), m.expr(deep), m.stmts(deep)...)
	case 9:
		return tryOf(m.name(), m.stmts(deep), m.stmts(deep))
	default:
		return localFunctionOf(m.name(), funcOf([]string{m.name()}, m.stmts(deep)...))
	}
}

// answers wants of Print what is expected, and answers what error that is.
func answers(t *testing.T, l []*api.Stmt) api.Errno {
	t.Helper()
	want, code := expected(l)
	text, e := Print(l)
	if text != want || e != code {
		t.Errorf("Print(%.2000s) = %.2000q, %d, want %.2000q, %d", tell(l), text, e, want, code)
	}
	return e
}

func TestMadeTrees(t *testing.T) {
	m := maker{draws()}
	texts := 0
	for range 2000 {
		if answers(t, m.stmts(m.draw(13))) == api.OK {
			texts++
		}
	}
	if texts < 1500 {
		t.Error(texts)
	}
}

// tree makes a tree of some parts.
func (m maker) tree() []*api.Stmt {
	for {
		var n nodes
		l := m.stmts(4 + m.draw(8))
		if n.addStmts(l); len(n.exprs) >= 5 {
			return l
		}
	}
}

// nodes gathers all statements and expressions of a tree, of which none is there twice.
type nodes struct {
	stmts []*api.Stmt
	exprs []*api.Expr
}

func (n *nodes) addStmts(l []*api.Stmt) {
	for _, s := range l {
		n.stmts = append(n.stmts, s)
		n.addExprs([]*api.Expr{s.L, s.R, s.To})
		n.addStmts(s.A)
		n.addStmts(s.B)
	}
}

func (n *nodes) addExprs(l []*api.Expr) {
	for _, e := range l {
		if e == nil {
			continue
		}
		n.exprs = append(n.exprs, e)
		n.addExprs([]*api.Expr{e.L, e.R})
		n.addExprs(e.Keys)
		n.addExprs(e.Args)
		n.addStmts(e.Body)
	}
}

// spoil makes one field of one part another one: now one that makes no difference, now one that is a fault, or is too long, or is a part around it.
func (m maker) spoil(l []*api.Stmt) {
	var n nodes
	n.addStmts(l)
	text := m.one("", "x", "a b", "end", "+", "..", "or", "not", "-", "1", "a = 1", "--", strings.Repeat("y", 25))
	if m.draw(3) == 0 {
		text = strings.Repeat("y", []int{5000, 32000, 40000}[m.draw(3)])
	}
	var part reflect.Value
	var fields []string
	if m.draw(2) == 0 || len(n.exprs) == 0 {
		s := n.stmts[m.draw(len(n.stmts))]
		part, fields = reflect.ValueOf(s).Elem(), stmtFields(s.Kind)
	} else {
		e := n.exprs[m.draw(len(n.exprs))]
		part, fields = reflect.ValueOf(e).Elem(), exprFields(e.Kind)
	}
	field := part.Field(m.draw(part.NumField()))
	if len(fields) > 0 && m.draw(4) > 0 {
		field = part.FieldByName(fields[m.draw(len(fields))])
	}
	switch field.Interface().(type) {
	case int:
		field.SetInt(int64(m.draw(15) - 1))
	case int64:
		field.SetInt(int64(m.draw(9) - 4))
	case string:
		field.SetString(text)
	case []string:
		field.Set(reflect.ValueOf([][]string{nil, {}, {text}, {"p", text}}[m.draw(4)]))
	case *api.Expr:
		field.Set(reflect.ValueOf(m.otherExpr(n)))
	case []*api.Expr:
		field.Set(reflect.ValueOf([][]*api.Expr{nil, {}, {m.otherExpr(n)}, {a(), m.otherExpr(n)}}[m.draw(4)]))
	case []*api.Stmt:
		s := []*api.Stmt{nil, breakOf(), n.stmts[m.draw(len(n.stmts))], {}, ifOf(a(), nil, nil)}[m.draw(5)]
		field.Set(reflect.ValueOf([][]*api.Stmt{nil, {}, {s}, {breakOf(), s}}[m.draw(4)]))
	}
}

func (m maker) otherExpr(n nodes) *api.Expr {
	if len(n.exprs) == 0 || m.draw(3) == 0 {
		return []*api.Expr{nil, {}, a(), {Kind: api.ExTable, Keys: []*api.Expr{nil}}}[m.draw(4)]
	}
	// Rather one that is ahead: it may be around the place to which it comes.
	return n.exprs[m.draw(1+m.draw(len(n.exprs)))]
}

// One fault, or two of them: the first one in the text is told.
func TestSpoiltTrees(t *testing.T) {
	m := maker{draws()}
	of := map[api.Errno]int{}
	for range 2500 {
		l := m.tree()
		m.spoil(l)
		if m.draw(2) == 0 {
			m.spoilUnlessRound(l)
		}
		of[answers(t, l)]++
	}
	if of[api.OK] < 700 || of[api.ErrArg] < 1000 || of[api.ErrLong] < 90 {
		t.Error(of)
	}
}

// spoilUnlessRound spoils once more, unless a part is its own part, or is not there.
func (m maker) spoilUnlessRound(l []*api.Stmt) {
	if _, e := put(l); e == api.OK && !strings.Contains(tell(l), "-") {
		m.spoil(l)
	}
}

// P6.2: two trees that were spoilt are the same if all their fields are.
func TestSameOfMadeTrees(t *testing.T) {
	alike := 0
	for seed := range 700 {
		made := func() (maker, []*api.Stmt) {
			m := maker{draws()}
			for range seed {
				m.draw(2)
			}
			return m, m.tree()
		}
		_, l := made()
		m, k := made()
		same(t, true, l, k)
		m.spoil(k)
		want := tell(l) == tell(k)
		if want {
			alike++
		}
		same(t, want, l, k)
	}
	if alike < 50 || alike > 500 {
		t.Error(alike)
	}
}

// P6.3

// writer of sources: words as the grammar has them, in any of the ways in which they may stand.
type sourcer struct{ maker }

func (s sourcer) list(deep int, item func(deep int) string) string {
	var l []string
	for range s.draw(4) {
		l = append(l, item(deep))
	}
	return strings.Join(l, s.one(",", " , ", "\n,", ", -- a, b\n"))
}

func (s sourcer) expr(deep int) string {
	if deep <= 0 {
		return s.primary(0)
	}
	switch s.draw(4) {
	case 0:
		return s.one(ahead()...) + s.one(" ", "\n", "--\n") + s.expr(deep-1)
	case 1:
		return s.post(deep - 1)
	default:
		return s.expr(deep-1-s.draw(3)) + s.one(" ", "\n", "\t") + s.one(operators()...) + s.one(" ", " ", " --(\n") + s.expr(deep-1-s.draw(3))
	}
}

func (s sourcer) primary(deep int) string {
	if deep <= 0 {
		return s.one("nil", "true", "false", "0", "1", "9223372036854775807", `""`, `"a"`, `"end"`, `"\x00\x61\n"`, "a", "b", "_x9")
	}
	switch s.draw(4) {
	case 0:
		return s.function("", deep-1)
	case 1:
		return "{" + s.list(deep-1, s.item) + "}"
	default:
		return "(" + s.expr(deep-1) + ")"
	}
}

func (s sourcer) item(deep int) string {
	switch s.draw(4) {
	case 0:
		return s.name() + s.one("=", " = ") + s.expr(deep)
	case 1:
		return "[" + s.expr(deep) + "]=" + s.expr(deep)
	default:
		return s.expr(deep)
	}
}

func (s sourcer) tail(deep int) string {
	switch s.draw(4) {
	case 0:
		return "." + s.name()
	case 1:
		return s.one(`["x"]`, `["and"]`, "[1]", "[a]")
	case 2:
		return "[" + s.expr(deep) + "]"
	default:
		return "(" + s.list(deep, s.expr) + ")"
	}
}

func (s sourcer) post(deep int) string {
	text := s.primary(deep)
	for range s.draw(3) {
		text += s.tail(deep - 1)
	}
	return text
}

func (s sourcer) function(name string, deep int) string {
	return "function " + name + "(" + s.list(0, func(int) string { return s.name() }) + ") " + s.stmts(deep) + " end"
}

// stmts parts what could go on with a parenthesis behind it.
func (s sourcer) stmts(deep int) string {
	var l []string
	for range min(deep+1, s.draw(4)) {
		l = append(l, s.stmt(deep-1-s.draw(2)), s.one("break", "break\n\n", "break -- end\n"))
	}
	if s.draw(4) == 0 {
		l = append(l, s.one("return", "return "+s.expr(deep)))
	}
	return strings.Join(l, s.one(" ", "\n"))
}

func (s sourcer) stmt(deep int) string {
	switch s.draw(12) {
	case 0:
		return "local " + s.name() + s.one("", " = "+s.expr(deep), "="+s.expr(deep))
	case 1:
		return s.name() + "=" + s.expr(deep)
	case 2:
		return s.parted(deep) + s.one("."+s.name(), "["+s.expr(deep)+"]") + " = " + s.expr(deep)
	case 3:
		return s.parted(deep) + "(" + s.list(deep, s.expr) + ")"
	case 4:
		return "do " + s.stmts(deep) + " end"
	case 5:
		return "while " + s.expr(deep) + " do " + s.stmts(deep) + " end"
	case 6, 7:
		text := "if " + s.expr(deep) + " then " + s.stmts(deep)
		for range s.draw(3) {
			text += " elseif " + s.expr(deep) + " then " + s.stmts(deep)
		}
		return text + s.one("", " else ", " else "+s.stmts(deep), " else if a then "+s.stmts(deep)+" end ") + " end"
	case 8:
		return "for " + s.name() + " = " + s.expr(deep) + ", " + s.expr(deep) + " do " + s.stmts(deep) + " end"
	case 9:
		return "try " + s.stmts(deep) + " catch " + s.name() + " " + s.stmts(deep) + " end"
	default:
		return s.one("", "local ") + s.function(s.name(), deep)
	}
}

// parted is a post that may begin a statement.
func (s sourcer) parted(deep int) string {
	text := s.post(deep)
	if strings.HasPrefix(text, "function") {
		return "(" + text + ")"
	}
	return text
}

// What was read is written, and read back as it was; what is written of that is the same text.
func TestWhatIsReadCanBeWritten(t *testing.T) {
	s := sourcer{maker{draws()}}
	written := 0
	for range 3000 {
		source := s.stmts(s.draw(10))
		l, err := parse.Parse(source)
		if errors.Is(err, api.ErrLong) {
			continue
		}
		if err != nil {
			t.Fatalf("%q: %v", source, err)
		}
		want, code := put(l)
		if code != api.OK {
			continue
		}
		prints(t, want, l...)
		if len(want) < 300 {
			noneToSpare(t, want)
		}
		again, _ := parse.Parse(want)
		prints(t, want, again...)
		written++
	}
	if written < 2500 {
		t.Error(written)
	}
}
