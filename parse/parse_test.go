package parse

import (
	"errors"
	"reflect"
	"slices"
	"strconv"
	"strings"
	"testing"

	"tallow/api"
)

// Trees, each part with its line.

func nilOf(line int) *api.Expr   { return &api.Expr{Kind: api.ExNil, Line: line} }
func trueOf(line int) *api.Expr  { return &api.Expr{Kind: api.ExTrue, Line: line} }
func falseOf(line int) *api.Expr { return &api.Expr{Kind: api.ExFalse, Line: line} }

func intOf(line int, n int64) *api.Expr { return &api.Expr{Kind: api.ExInt, Line: line, N: n} }

func strOf(line int, text string) *api.Expr {
	return &api.Expr{Kind: api.ExStr, Line: line, Text: text}
}

func nameOf(line int, text string) *api.Expr {
	return &api.Expr{Kind: api.ExName, Line: line, Text: text}
}

func indexOf(line int, l, r *api.Expr) *api.Expr {
	return &api.Expr{Kind: api.ExIndex, Line: line, L: l, R: r}
}

func callOf(line int, l *api.Expr, args ...*api.Expr) *api.Expr {
	return &api.Expr{Kind: api.ExCall, Line: line, L: l, Args: args}
}

func funcOf(line int, params []string, body ...*api.Stmt) *api.Expr {
	return &api.Expr{Kind: api.ExFunc, Line: line, Params: params, Body: body}
}

func unOf(line int, sign string, r *api.Expr) *api.Expr {
	return &api.Expr{Kind: api.ExUn, Line: line, Text: sign, R: r}
}

func binOf(line int, l *api.Expr, sign string, r *api.Expr) *api.Expr {
	return &api.Expr{Kind: api.ExBin, Line: line, Text: sign, L: l, R: r}
}

// tableOf wants keys and items by turns.
func tableOf(line int, items ...*api.Expr) *api.Expr {
	t := &api.Expr{Kind: api.ExTable, Line: line}
	for i := 0; i < len(items); i += 2 {
		t.Keys, t.Args = append(t.Keys, items[i]), append(t.Args, items[i+1])
	}
	return t
}

func localOf(line int, name string, r *api.Expr) *api.Stmt {
	return &api.Stmt{Kind: api.StLocal, Line: line, Name: name, R: r}
}

func setOf(line int, l, r *api.Expr) *api.Stmt {
	return &api.Stmt{Kind: api.StSet, Line: line, L: l, R: r}
}

func doOf(line int, r *api.Expr) *api.Stmt { return &api.Stmt{Kind: api.StCall, Line: line, R: r} }

func returnOf(line int, r *api.Expr) *api.Stmt {
	return &api.Stmt{Kind: api.StReturn, Line: line, R: r}
}

func breakOf(line int) *api.Stmt { return &api.Stmt{Kind: api.StBreak, Line: line} }

func blockOf(stmts ...*api.Stmt) []*api.Stmt { return stmts }

// tell writes a tree, for what a test prints.
func tell(b []*api.Stmt) string {
	var l []string
	for _, s := range b {
		l = append(l, "("+strings.Join([]string{"st", strconv.Itoa(s.Kind), "@" + strconv.Itoa(s.Line), s.Name, tellExpr(s.L), tellExpr(s.R), tellExpr(s.To), tell(s.A), tell(s.B)}, " ")+")")
	}
	return "[" + strings.Join(l, " ") + "]"
}

func tellExpr(e *api.Expr) string {
	if e == nil {
		return "-"
	}
	l := []string{"ex", strconv.Itoa(e.Kind), "@" + strconv.Itoa(e.Line), strconv.FormatInt(e.N, 10), strconv.Quote(e.Text), tellExpr(e.L), tellExpr(e.R), strings.Join(e.Params, ",")}
	for i, a := range e.Args {
		if i < len(e.Keys) {
			l = append(l, tellExpr(e.Keys[i])+":")
		}
		l = append(l, tellExpr(a))
	}
	return "(" + strings.Join(append(l, tell(e.Body)), " ") + ")"
}

// is wants just those statements: each field, each line, and lists that are nil where they are empty.
func is(t *testing.T, text string, want ...*api.Stmt) {
	t.Helper()
	b, err := Parse(text)
	if err != nil || !reflect.DeepEqual(b, want) {
		t.Errorf("Parse(%.200q) = %.2000s, %v, want %.2000s", text, tell(b), err, tell(want))
	}
}

// isExpr wants that expression behind a return on its line 0.
func isExpr(t *testing.T, text string, want *api.Expr) {
	t.Helper()
	is(t, "return "+text, returnOf(0, want))
}

func reads(t *testing.T, text string) []*api.Stmt {
	t.Helper()
	b, err := Parse(text)
	if err != nil {
		t.Errorf("Parse(%.200q): %v", text, err)
	}
	return b
}

func fails(t *testing.T, text string, code api.Errno, line int) {
	t.Helper()
	b, err := Parse(text)
	var f *api.Fault
	if !errors.As(err, &f) || *f != (api.Fault{Code: code, At: line}) || b != nil {
		t.Errorf("Parse(%.200q) = %.200s, %v, want error %d at %d", text, tell(b), err, code, line)
		return
	}
	for e := range api.ErrCode + 1 {
		if errors.Is(err, e) != (e == code) {
			t.Errorf("Parse(%.200q): errors.Is(%v, %d) is %t", text, err, e, e != code)
		}
	}
}

// lines puts each word of text on a line of its own: the word n on the line n, and the end behind the last one.
func lines(text string) string {
	words := strings.Fields(text)
	if len(words) == 0 {
		return ""
	}
	return strings.Join(words, "\n") + "\n"
}

// withoutLines takes the lines away from a tree.
func withoutLines(b []*api.Stmt) []*api.Stmt {
	for _, s := range b {
		s.Line = 0
		exprsWithoutLines(s.L, s.R, s.To)
		withoutLines(s.A)
		withoutLines(s.B)
	}
	return b
}

func exprsWithoutLines(l ...*api.Expr) {
	for _, e := range l {
		if e == nil {
			continue
		}
		e.Line = 0
		exprsWithoutLines(e.L, e.R)
		exprsWithoutLines(e.Keys...)
		exprsWithoutLines(e.Args...)
		withoutLines(e.Body)
	}
}

func alike(t *testing.T, a, b string) {
	t.Helper()
	x, y := withoutLines(reads(t, a)), withoutLines(reads(t, b))
	if !reflect.DeepEqual(x, y) {
		t.Errorf("%.200q is %.1000s, but %.200q is %.1000s", a, tell(x), b, tell(y))
	}
}

// levels has the operators between two operands, the weakest first.
func levels() [][]string {
	return [][]string{{"or"}, {"and"}, {"<", "<=", ">", ">=", "==", "~="}, {"|"}, {"~"}, {"&"}, {"<<", ">>"}, {".."}, {"+", "-"}, {"*", "//", "%"}}
}

func levelOf(sign string) int {
	return slices.IndexFunc(levels(), func(l []string) bool { return slices.Contains(l, sign) })
}

func operators() []string { return slices.Concat(levels()...) }

func ahead() []string { return []string{"not", "-", "#", "~"} }

// P5.1: statements, with each word on a line of its own

func TestNothing(t *testing.T) {
	for _, text := range []string{"", " ", "\n", "-- a", "\n\n--\n\t"} {
		is(t, text)
	}
}

func TestEachStatement(t *testing.T) {
	for text, want := range map[string][]*api.Stmt{
		"local x":                                  {localOf(0, "x", nil)},
		"local x = a":                              {localOf(0, "x", nameOf(3, "a"))},
		"local x = nil":                            {localOf(0, "x", nilOf(3))},
		"local x local y = x local x":              {localOf(0, "x", nil), localOf(2, "y", nameOf(5, "x")), localOf(6, "x", nil)},
		"local function f ( ) end":                 {{Kind: api.StFunc, Line: 0, Name: "f", R: funcOf(1, nil)}},
		"local function f ( a ) return a end":      {{Kind: api.StFunc, Line: 0, Name: "f", R: funcOf(1, []string{"a"}, returnOf(6, nameOf(7, "a")))}},
		"function f ( ) end":                       {setOf(0, nameOf(1, "f"), funcOf(0, nil))},
		"function f ( a , b , a ) break g = a end": {setOf(0, nameOf(1, "f"), funcOf(0, []string{"a", "b", "a"}, breakOf(9), setOf(10, nameOf(10, "g"), nameOf(12, "a"))))},
		"do end":                                {{Kind: api.StDo}},
		"do break do end end":                   {{Kind: api.StDo, A: blockOf(breakOf(1), &api.Stmt{Kind: api.StDo, Line: 2})}},
		"while a do end":                        {{Kind: api.StWhile, R: nameOf(1, "a")}},
		"while a do break end break":            {{Kind: api.StWhile, R: nameOf(1, "a"), A: blockOf(breakOf(3))}, breakOf(5)},
		"for i = a , b do end":                  {{Kind: api.StFor, Name: "i", R: nameOf(3, "a"), To: nameOf(5, "b")}},
		"for i = 1 , 2 do break end":            {{Kind: api.StFor, Name: "i", R: intOf(3, 1), To: intOf(5, 2), A: blockOf(breakOf(7))}},
		"return":                                {returnOf(0, nil)},
		"return a":                              {returnOf(0, nameOf(1, "a"))},
		"return nil":                            {returnOf(0, nilOf(1))},
		"return function ( ) end":               {returnOf(0, funcOf(1, nil))},
		"break":                                 {breakOf(0)},
		"break break":                           {breakOf(0), breakOf(1)},
		"try catch e end":                       {{Kind: api.StTry, Name: "e"}},
		"try break catch e break break end":     {{Kind: api.StTry, Name: "e", A: blockOf(breakOf(1)), B: blockOf(breakOf(4), breakOf(5))}},
		"try return catch e return e end break": {{Kind: api.StTry, Name: "e", A: blockOf(returnOf(1, nil)), B: blockOf(returnOf(4, nameOf(5, "e")))}, breakOf(7)},
		"f ( )":                                 {doOf(0, callOf(1, nameOf(0, "f")))},
		"f ( ) g ( a )":                         {doOf(0, callOf(1, nameOf(0, "f"))), doOf(3, callOf(4, nameOf(3, "g"), nameOf(5, "a")))},
		"a = b":                                 {setOf(0, nameOf(0, "a"), nameOf(2, "b"))},
		"a = b c = d":                           {setOf(0, nameOf(0, "a"), nameOf(2, "b")), setOf(3, nameOf(3, "c"), nameOf(5, "d"))},
		"a . b = c":                             {setOf(0, indexOf(1, nameOf(0, "a"), strOf(2, "b")), nameOf(4, "c"))},
		"a [ b ] = c":                           {setOf(0, indexOf(1, nameOf(0, "a"), nameOf(2, "b")), nameOf(5, "c"))},
		"f ( ) . b = c":                         {setOf(0, indexOf(3, callOf(1, nameOf(0, "f")), strOf(4, "b")), nameOf(6, "c"))},
		"f ( ) ( )":                             {doOf(0, callOf(3, callOf(1, nameOf(0, "f"))))},
		"a . b ( )":                             {doOf(0, callOf(3, indexOf(1, nameOf(0, "a"), strOf(2, "b"))))},
		"( a ) . b = c":                         {setOf(0, indexOf(3, nameOf(1, "a"), strOf(4, "b")), nameOf(6, "c"))},
		"( a ) ( )":                             {doOf(0, callOf(3, nameOf(1, "a")))},
		"( a + b ) [ c ] = d":                   {setOf(0, indexOf(5, binOf(2, nameOf(1, "a"), "+", nameOf(3, "b")), nameOf(6, "c")), nameOf(9, "d"))},
		"( f ( ) ) ( )":                         {doOf(0, callOf(5, callOf(2, nameOf(1, "f"))))},
		"a = b ( c ) ( )":                       {setOf(0, nameOf(0, "a"), callOf(6, callOf(3, nameOf(2, "b"), nameOf(4, "c"))))},
		"function f ( ) end ( a ) ( )":          {setOf(0, nameOf(1, "f"), funcOf(0, nil)), doOf(5, callOf(8, nameOf(6, "a")))},
		"local x ( a ) ( )":                     {localOf(0, "x", nil), doOf(2, callOf(5, nameOf(3, "a")))},
		"break ( a ) ( )":                       {breakOf(0), doOf(1, callOf(4, nameOf(2, "a")))},
	} {
		is(t, lines(text), want...)
		alike(t, text, lines(text))
	}
}

func TestIf(t *testing.T) {
	for text, want := range map[string]*api.Stmt{
		"if a then end":                        {Kind: api.StIf, R: nameOf(1, "a")},
		"if a then break end":                  {Kind: api.StIf, R: nameOf(1, "a"), A: blockOf(breakOf(3))},
		"if a then else end":                   {Kind: api.StIf, R: nameOf(1, "a")},
		"if a then else break end":             {Kind: api.StIf, R: nameOf(1, "a"), B: blockOf(breakOf(4))},
		"if a then break break else break end": {Kind: api.StIf, R: nameOf(1, "a"), A: blockOf(breakOf(3), breakOf(4)), B: blockOf(breakOf(6))},
		"if a then return else return b end":   {Kind: api.StIf, R: nameOf(1, "a"), A: blockOf(returnOf(3, nil)), B: blockOf(returnOf(5, nameOf(6, "b")))},
		"if a then elseif b then end":          {Kind: api.StIf, R: nameOf(1, "a"), B: blockOf(&api.Stmt{Kind: api.StIf, Line: 3, R: nameOf(4, "b")})},
		"if a then return c elseif b then break else return end": {Kind: api.StIf, R: nameOf(1, "a"), A: blockOf(returnOf(3, nameOf(4, "c"))), B: blockOf(
			&api.Stmt{Kind: api.StIf, Line: 5, R: nameOf(6, "b"), A: blockOf(breakOf(8)), B: blockOf(returnOf(10, nil))})},
		"if a then elseif b then break elseif c then elseif d then else break break end": {Kind: api.StIf, R: nameOf(1, "a"), B: blockOf(
			&api.Stmt{Kind: api.StIf, Line: 3, R: nameOf(4, "b"), A: blockOf(breakOf(6)), B: blockOf(
				&api.Stmt{Kind: api.StIf, Line: 7, R: nameOf(8, "c"), B: blockOf(
					&api.Stmt{Kind: api.StIf, Line: 10, R: nameOf(11, "d"), B: blockOf(breakOf(14), breakOf(15))})})})},
		"if a then else if b then end end": {Kind: api.StIf, R: nameOf(1, "a"), B: blockOf(&api.Stmt{Kind: api.StIf, Line: 4, R: nameOf(5, "b")})},
	} {
		is(t, lines(text), want)
		is(t, lines(text+" break"), want, breakOf(len(strings.Fields(text))))
	}
	alike(t, "if a then f() elseif b then g() elseif c then h() else i() end", "if a then f() else if b then g() else if c then h() else i() end end end")
}

// A block ends behind its return, with whatever may end that block.
func TestReturnEndsItsBlock(t *testing.T) {
	for _, around := range [][2]string{{"", ""}, {"do ", " end"}, {"while a do ", " end"}, {"for i = a , b do ", " end"}, {"if a then ", " end"}, {"if a then ", " else end"}, {"if a then ", " elseif b then end"}, {"if a then elseif b then ", " end"}, {"if a then elseif b then ", " else end"}, {"if a then else ", " end"}, {"try ", " catch e end"}, {"try catch e ", " end"}, {"function f ( ) ", " end"}, {"local function f ( ) ", " end"}, {"f = function ( ) ", " end"}} {
		for _, value := range []string{"", " a", " a + b", " f ( )", " function ( ) end", " { }", " ( a )"} {
			text := around[0] + "return" + value
			at := len(strings.Fields(text))
			reads(t, text+around[1])
			for _, more := range []string{"return", "return b", "break", "local x", "do end", "while a do end", "if a then end", "for i = a , b do end", "try catch e end", "=", ","} {
				fails(t, lines(text+" "+more+around[1]), api.ErrForm, at)
			}
			for _, more := range []string{"b ( )", "b = c", "function f ( ) end", "1", `"s" ( )`, "{ }", "nil"} {
				if value != "" {
					fails(t, lines(text+" "+more+around[1]), api.ErrForm, at)
				}
			}
		}
	}
	for text, at := range map[string]int{
		"return end": 1, "return else": 1, "do return else end": 2, "do return catch e end": 2, "try return end": 2, "if a then return catch": 4, "if a then else return elseif": 5, "if a then else return else": 5, "do return": 2, "function f ( ) return a": 6, "if a then return c elseif b then c end": 9,
	} {
		fails(t, lines(text), api.ErrForm, at)
	}
	reads(t, "do return end break")
	reads(t, "do return a end return")
}

// Behind a post a parenthesis goes on with it, wherever the lines end.
func TestPostsGoOn(t *testing.T) {
	is(t, "a = b\n(c)()", setOf(0, nameOf(0, "a"), callOf(1, callOf(1, nameOf(0, "b"), nameOf(1, "c")))))
	is(t, "f()\n(c)\n.d = 1", setOf(0, indexOf(2, callOf(1, callOf(0, nameOf(0, "f")), nameOf(1, "c")), strOf(2, "d")), intOf(2, 1)))
	is(t, "local x = 1\n(2)", localOf(0, "x", callOf(1, intOf(0, 1), intOf(1, 2))))
	is(t, "a = function() end\n()", setOf(0, nameOf(0, "a"), callOf(1, funcOf(0, nil))))
	is(t, "a = {}\n{}.b = c", setOf(0, nameOf(0, "a"), tableOf(0)), setOf(1, indexOf(1, tableOf(1), strOf(1, "b")), nameOf(1, "c")))
	is(t, "a = b\n\"s\"()", setOf(0, nameOf(0, "a"), nameOf(0, "b")), doOf(1, callOf(1, strOf(1, "s"))))
	is(t, "a = b 1[2] = c", setOf(0, nameOf(0, "a"), nameOf(0, "b")), setOf(0, indexOf(0, intOf(0, 1), intOf(0, 2)), nameOf(0, "c")))
}

// P5.1: expressions

func TestEachExpression(t *testing.T) {
	for text, want := range map[string]*api.Expr{
		"nil":                             nilOf(1),
		"true":                            trueOf(1),
		"false":                           falseOf(1),
		"0":                               intOf(1, 0),
		"907":                             intOf(1, 907),
		"9223372036854775807":             intOf(1, 1<<63-1),
		`""`:                              strOf(1, ""),
		`"s"`:                             strOf(1, "s"),
		`"end"`:                           strOf(1, "end"),
		`"("`:                             strOf(1, "("),
		`"\n\x00\xff"`:                    strOf(1, "\n\x00\xff"),
		"x":                               nameOf(1, "x"),
		"_End9":                           nameOf(1, "_End9"),
		"( x )":                           nameOf(2, "x"),
		"( ( nil ) )":                     nilOf(3),
		"a . b":                           indexOf(2, nameOf(1, "a"), strOf(3, "b")),
		"a [ b ]":                         indexOf(2, nameOf(1, "a"), nameOf(3, "b")),
		`a [ "b" ]`:                       indexOf(2, nameOf(1, "a"), strOf(3, "b")),
		"a [ 1 ] [ 2 ]":                   indexOf(5, indexOf(2, nameOf(1, "a"), intOf(3, 1)), intOf(6, 2)),
		"a . b . c":                       indexOf(4, indexOf(2, nameOf(1, "a"), strOf(3, "b")), strOf(5, "c")),
		"a [ b + c ]":                     indexOf(2, nameOf(1, "a"), binOf(4, nameOf(3, "b"), "+", nameOf(5, "c"))),
		"f ( )":                           callOf(2, nameOf(1, "f")),
		"f ( nil )":                       callOf(2, nameOf(1, "f"), nilOf(3)),
		"f ( a , 2 , b or c )":            callOf(2, nameOf(1, "f"), nameOf(3, "a"), intOf(5, 2), binOf(8, nameOf(7, "b"), "or", nameOf(9, "c"))),
		"f ( ) ( a ) ( )":                 callOf(7, callOf(4, callOf(2, nameOf(1, "f")), nameOf(5, "a"))),
		`f ( x ) . y [ 1 ] ( "s" )`:       callOf(10, indexOf(7, indexOf(5, callOf(2, nameOf(1, "f"), nameOf(3, "x")), strOf(6, "y")), intOf(8, 1)), strOf(11, "s")),
		"( a + b ) . c":                   indexOf(6, binOf(3, nameOf(2, "a"), "+", nameOf(4, "b")), strOf(7, "c")),
		"( - a ) ( )":                     callOf(5, unOf(2, "-", nameOf(3, "a"))),
		"nil . a":                         indexOf(2, nilOf(1), strOf(3, "a")),
		"true ( )":                        callOf(2, trueOf(1)),
		"1 [ 2 ]":                         indexOf(2, intOf(1, 1), intOf(3, 2)),
		`"s" . a`:                         indexOf(2, strOf(1, "s"), strOf(3, "a")),
		"{ } . a":                         indexOf(3, tableOf(1), strOf(4, "a")),
		"function ( ) end ( )":            callOf(5, funcOf(1, nil)),
		"function ( ) end":                funcOf(1, nil),
		"function ( a ) end":              funcOf(1, []string{"a"}),
		"function ( a , b , _ ) end":      funcOf(1, []string{"a", "b", "_"}),
		"function ( ) return end":         funcOf(1, nil, returnOf(4, nil)),
		"function ( ) break return 1 end": funcOf(1, nil, breakOf(4), returnOf(5, intOf(6, 1))),
		"function ( ) return function ( x ) end end": funcOf(1, nil, returnOf(4, funcOf(5, []string{"x"}))),
		"- a":                unOf(1, "-", nameOf(2, "a")),
		"not not - ~ # a":    unOf(1, "not", unOf(2, "not", unOf(3, "-", unOf(4, "~", unOf(5, "#", nameOf(6, "a")))))),
		"- 1":                unOf(1, "-", intOf(2, 1)),
		"- ( - 1 )":          unOf(1, "-", unOf(3, "-", intOf(4, 1))),
		"- a . b ( )":        unOf(1, "-", callOf(5, indexOf(3, nameOf(2, "a"), strOf(4, "b")))),
		"- function ( ) end": unOf(1, "-", funcOf(2, nil)),
		"# { }":              unOf(1, "#", tableOf(2)),
		"a - - b":            binOf(2, nameOf(1, "a"), "-", unOf(3, "-", nameOf(4, "b"))),
		"a + b + c":          binOf(4, binOf(2, nameOf(1, "a"), "+", nameOf(3, "b")), "+", nameOf(5, "c")),
		"a .. b .. c":        binOf(2, nameOf(1, "a"), "..", binOf(4, nameOf(3, "b"), "..", nameOf(5, "c"))),
		"( a .. b ) .. c":    binOf(6, binOf(3, nameOf(2, "a"), "..", nameOf(4, "b")), "..", nameOf(7, "c")),
	} {
		is(t, lines("return "+text), returnOf(0, want))
		is(t, lines("return "+text)+"-- x", returnOf(0, want))
		alike(t, "return "+text, "return\n(\n"+text+" -- )\n)")
	}
}

func TestTables(t *testing.T) {
	for text, want := range map[string]*api.Expr{
		"{ }":                             tableOf(1),
		"{ a }":                           tableOf(1, nil, nameOf(2, "a")),
		"{ nil , nil }":                   tableOf(1, nil, nilOf(2), nil, nilOf(4)),
		"{ a = b }":                       tableOf(1, strOf(2, "a"), nameOf(4, "b")),
		"{ a = a , a = a }":               tableOf(1, strOf(2, "a"), nameOf(4, "a"), strOf(6, "a"), nameOf(8, "a")),
		"{ [ a ] = b }":                   tableOf(1, nameOf(3, "a"), nameOf(6, "b")),
		`{ [ "a" ] = b }`:                 tableOf(1, strOf(3, "a"), nameOf(6, "b")),
		"{ [ a == b ] = c == d }":         tableOf(1, binOf(4, nameOf(3, "a"), "==", nameOf(5, "b")), binOf(9, nameOf(8, "c"), "==", nameOf(10, "d"))),
		"{ a == b }":                      tableOf(1, nil, binOf(3, nameOf(2, "a"), "==", nameOf(4, "b"))),
		"{ a . b , f ( ) , a [ b ] }":     tableOf(1, nil, indexOf(3, nameOf(2, "a"), strOf(4, "b")), nil, callOf(7, nameOf(6, "f")), nil, indexOf(11, nameOf(10, "a"), nameOf(12, "b"))),
		"{ 1 , x = 2 , [ 3 ] = 4 , y }":   tableOf(1, nil, intOf(2, 1), strOf(4, "x"), intOf(6, 2), intOf(9, 3), intOf(12, 4), nil, nameOf(14, "y")),
		"{ { } , x = { [ { } ] = { } } }": tableOf(1, nil, tableOf(2), strOf(5, "x"), tableOf(7, tableOf(9), tableOf(13))),
		"{ x = function ( ) end , - 1 }":  tableOf(1, strOf(2, "x"), funcOf(4, nil), nil, unOf(9, "-", intOf(10, 1))),
		`{ "x" , ( x ) }`:                 tableOf(1, nil, strOf(2, "x"), nil, nameOf(5, "x")),
	} {
		is(t, lines("return "+text), returnOf(0, want))
		alike(t, "return "+text, lines("return "+text))
	}
	for text, at := range map[string]int{
		"{ a , }": 4, "{ , }": 2, "{ , a }": 2, "{ a b }": 3, "{ a = }": 4, "{ = a }": 2, "{ [ a ] }": 5, "{ [ a ] a }": 5, "{ [ a = b }": 4, "{ [ ] = a }": 3, "{ 1 = 2 }": 3, `{ "a" = 2 }`: 3, "{ ( a ) = 2 }": 5, "{ a . b = 2 }": 5, "{ a [ 1 ] = 2 }": 6, "{ end = 1 }": 2, "{ a = b = c }": 5, "{ a ": 3, "{ ": 2, "{ a , ": 4, "{ ) ": 2, "{ a )": 3, "{ local a }": 2, "{ nil = 1 }": 3,
	} {
		fails(t, lines("return "+text), api.ErrForm, at)
	}
}

func TestEachOperator(t *testing.T) {
	if len(operators()) != 19 {
		t.Fatal(operators())
	}
	for _, sign := range operators() {
		want := binOf(0, nameOf(0, "a"), sign, nameOf(0, "b"))
		isExpr(t, "a "+sign+" b", want)
		isExpr(t, "(a)"+sign+"(b)", want)
		isExpr(t, "((a)"+sign+"(b))", want)
		isExpr(t, "\na\n"+sign+"\nb\n", binOf(2, nameOf(1, "a"), sign, nameOf(3, "b")))
		isExpr(t, "\n(\na\n)\n"+sign+"\n(\nb)\n", binOf(4, nameOf(2, "a"), sign, nameOf(6, "b")))
		isExpr(t, "f() "+sign+" a.b", binOf(0, callOf(0, nameOf(0, "f")), sign, indexOf(0, nameOf(0, "a"), strOf(0, "b"))))
		isExpr(t, "nil "+sign+" {}", binOf(0, nilOf(0), sign, tableOf(0)))
		isExpr(t, "1 "+sign+` "s"`, binOf(0, intOf(0, 1), sign, strOf(0, "s")))
		isExpr(t, "function() end "+sign+" function() end", binOf(0, funcOf(0, nil), sign, funcOf(0, nil)))
		fails(t, lines("return a "+sign), api.ErrForm, 3)
		fails(t, lines("return a "+sign+" ) "), api.ErrForm, 3)
		fails(t, lines("return a "+sign+" end "), api.ErrForm, 3)
		fails(t, lines("a "+sign+" b"), api.ErrForm, 1)
		fails(t, lines("f ( ) "+sign+" b"), api.ErrForm, 3)
		if !slices.Contains(ahead(), sign) {
			fails(t, lines("return "+sign+" b"), api.ErrForm, 1)
			fails(t, lines("return a + "+sign+" b"), api.ErrForm, 3)
		}
	}
	for _, sign := range []string{"=", ",", "#", "not", "]", "}", "then", "1", "b", "{", "nil"} {
		fails(t, lines("return ( a "+sign+" b )"), api.ErrForm, 3)
	}
}

func TestEachSignAheadOfAnOperand(t *testing.T) {
	a := nameOf(0, "a")
	for _, sign := range ahead() {
		isExpr(t, sign+" a", unOf(0, sign, a))
		isExpr(t, sign+"(a)", unOf(0, sign, a))
		isExpr(t, "("+sign+" a)", unOf(0, sign, a))
		isExpr(t, "\n"+sign+"\n\na", unOf(1, sign, nameOf(3, "a")))
		isExpr(t, sign+" a.a[a](a)", unOf(0, sign, callOf(0, indexOf(0, indexOf(0, a, strOf(0, "a")), a), a)))
		isExpr(t, "("+sign+" a).a", indexOf(0, unOf(0, sign, a), strOf(0, "a")))
		fails(t, lines("return "+sign), api.ErrForm, 2)
		fails(t, lines("return "+sign+" )"), api.ErrForm, 2)
		fails(t, lines(sign+" a"), api.ErrForm, 0)
		fails(t, lines(sign+" a = b"), api.ErrForm, 0)
		for _, other := range ahead() {
			isExpr(t, sign+" "+other+" a", unOf(0, sign, unOf(0, other, a)))
			isExpr(t, sign+"("+other+" a)", unOf(0, sign, unOf(0, other, a)))
		}
		for _, op := range operators() {
			isExpr(t, sign+" a "+op+" a", binOf(0, unOf(0, sign, a), op, a))
			isExpr(t, "a "+op+" "+sign+" a", binOf(0, a, op, unOf(0, sign, a)))
			isExpr(t, sign+" a "+op+" "+sign+" a", binOf(0, unOf(0, sign, a), op, unOf(0, sign, a)))
			isExpr(t, sign+" (a "+op+" a)", unOf(0, sign, binOf(0, a, op, a)))
			isExpr(t, sign+" a.a "+op+" a", binOf(0, unOf(0, sign, indexOf(0, a, strOf(0, "a"))), op, a))
		}
	}
}

func TestAnyTwoOperators(t *testing.T) {
	a, b, c := nameOf(1, "a"), nameOf(3, "b"), nameOf(5, "c")
	for _, p := range operators() {
		for _, q := range operators() {
			left := binOf(4, binOf(2, a, p, b), q, c)
			right := binOf(2, a, p, binOf(4, b, q, c))
			plain, same := right, "a "+p+" ( b "+q+" c )"
			if levelOf(p) > levelOf(q) || levelOf(p) == levelOf(q) && p != ".." {
				plain, same = left, "( a "+p+" b ) "+q+" c"
			}
			is(t, lines("return a "+p+" b "+q+" c"), returnOf(0, plain))
			alike(t, "return a "+p+" b "+q+" c", "return "+same)
			is(t, "return\n(a\n"+p+"\nb\n)"+q+"\nc", returnOf(0, binOf(4, binOf(2, a, p, b), q, c)))
			is(t, "return\na\n"+p+"\n(b\n"+q+"\nc)", returnOf(0, binOf(2, a, p, binOf(4, b, q, c))))
		}
	}
}

func TestAnyThreeOperators(t *testing.T) {
	for _, p := range levels() {
		for _, q := range levels() {
			for _, r := range levels() {
				signs := []string{p[0], q[len(q)-1], r[0]}
				isExpr(t, "a "+signs[0]+" b "+signs[1]+" c "+signs[2]+" d", grouped([]string{"a", "b", "c", "d"}, signs))
			}
		}
	}
}

// grouped parts operands at the operator that is done last: of the weakest ones the last, but of .. the first.
func grouped(operands, signs []string) *api.Expr {
	if len(signs) == 0 {
		return nameOf(0, operands[0])
	}
	last := 0
	for i, sign := range signs {
		weaker := levelOf(sign) < levelOf(signs[last])
		if weaker || levelOf(sign) == levelOf(signs[last]) && sign != ".." {
			last = i
		}
	}
	return binOf(0, grouped(operands[:last+1], signs[:last]), signs[last], grouped(operands[last+1:], signs[last+1:]))
}

// P5.2

func TestParenthesesThatChangeNothing(t *testing.T) {
	for _, x := range [][2]string{
		{"return a", "return ((((a))))"},
		{"return a + b * c", "return (a) + ((b) * (c))"},
		{"return a .. b .. c", "return (a .. ((b .. (c))))"},
		{"return a - b - c", "return ((a - b) - c)"},
		{"return a or b and c == d", "return a or (b and (c == d))"},
		{"return -a.b", "return -(a.b)"},
		{"return not -a", "return (not (-(a)))"},
		{"return -a + b", "return (-a) + b"},
		{"f(a, b)[c].d()", "((f)((a), (b))[(c)].d)()"},
		{"a.b.c = d", "((a).b).c = (d)"},
		{"t = {a, b = c, [d] = e}", "t = ({(a), b = (c), [(d)] = (e)})"},
		{"local x = function() return a end", "local x = (function() return (a) end)"},
		{"while a do end", "while (a) do end"},
		{"for i = a, b do end", "for i = (a), (b) do end"},
		{"if a then elseif b then end", "if (a) then elseif (b) then end"},
		{"local x = a local y", "local x = (a) local y"},
	} {
		alike(t, x[0], x[1])
	}
}

func TestBlanksAndRemarksChangeNothing(t *testing.T) {
	const text = `local function f ( a , b ) if a then return { a , b = - 1 , [ "x" ] = nil } elseif not b then f ( ) . x = # a .. 2 .. "s" end end for i = 1 , 2 do break end try f ( f ) catch e end while true do ( f ) ( ) end`
	want := withoutLines(reads(t, text))
	for _, gap := range []string{" ", "\t", "\r", "\n", "\r\n", " \n\n ", " --\n", " -- a = \" end\n", "\n--\n--\n"} {
		b := withoutLines(reads(t, gap+strings.Join(strings.Fields(text), gap)+gap))
		if !reflect.DeepEqual(b, want) {
			t.Errorf("with %q: %.1000s, want %.1000s", gap, tell(b), tell(want))
		}
	}
	alike(t, "a=1+2*-3..x.y[1]{}.z=f(a,b)", "a = 1 + 2 * - 3 .. x . y [ 1 ] { } . z = f ( a , b )")
	alike(t, "if(a)then(f)()end", "if ( a ) then ( f ) ( ) end")
}

// P5.1: what is wrong

func TestPostsThatAreNoStatement(t *testing.T) {
	posts := []string{"f", "a . b", "a [ b ]", "f ( ) . a", "1", `"s"`, "nil", "true", "false", "{ }", "{ a }", "( a )", "( f ( ) )", "( a . b )", "( ( a ) )", "( f ( ) . a )", "function ( ) end"}
	for _, post := range posts {
		at := len(strings.Fields(post))
		for _, more := range []string{"", "end", "f ( )", "a = b", "local x", "return", "break", ",", ")", "]", "}", "==", "+ a", ".. a", "and", "1", `"s"`, "{ }", "function f ( ) end", "do end", "then", "else", "catch", "not"} {
			fails(t, lines(post+" "+more), api.ErrForm, at)
			fails(t, lines("break do "+post+" "+more), api.ErrForm, at+2)
		}
		last := post[len(post)-1]
		if strings.HasPrefix(post, "(") || !strings.Contains("fb]a", string(last)) {
			fails(t, lines(post+" = 1"), api.ErrForm, at)
		} else {
			reads(t, lines(post+" = 1"))
		}
		reads(t, lines(post+" ( )"))
		reads(t, lines(post+" . a = 1"))
		reads(t, lines(post+" [ 1 ] = 1"))
		fails(t, lines(post+" ( ) = 1"), api.ErrForm, at+2)
		fails(t, lines(post+" ( ) + 1"), api.ErrForm, at+2)
		fails(t, lines(post+" . a"), api.ErrForm, at+2)
		fails(t, lines("( "+post+" ( ) )"), api.ErrForm, at+4)
		fails(t, lines("( "+post+" . a ) = 1"), api.ErrForm, at+4)
	}
}

// In each kind of statement what comes is wrong at the place that is told.
func TestWrongWords(t *testing.T) {
	for text, at := range map[string]int{
		"end": 0, "else": 0, "elseif": 0, "catch": 0, "then": 0, "=": 0, ",": 0, ")": 0, "]": 0, "}": 0, "[ a ] = 1": 0, ". a": 0, ".. a": 0, "and": 0, "or": 0, "not a": 0, "- a": 0, "# a": 0, "< a": 0,
		"break end": 1, "f ( ) end": 3, "do end end": 2, "while a do end end": 4, "if a then end else": 4, "try f ( ) end": 4, "do catch": 1, "do else": 1, "do elseif": 1, "try else": 1, "try elseif": 1, "while a do else end": 3,
		"local": 1, "local 1": 1, "local \"x\"": 1, "local =": 1, "local ( x )": 1, "local local": 1, "local end": 1, "local x , y": 2, "local x =": 3, "local x = local": 3, "local x = = 1": 3, "local x = 1 , 2": 4, "local x . y = 1": 2, "local x y": 3, "local x [ 1 ] = 1": 2, "local nil": 1,
		"local function": 2, "local function ( ) end": 2, "local function f": 3, "local function f end": 3, "local function f . g ( ) end": 3, "local function f ( ) end end": 6, "local function 1": 2, "local function f (": 4, "local function f ( a": 5, "local function f ( )": 5,
		"function": 1, "function 1": 1, "function end": 1, "function f": 2, "function f end": 2, "function f . g ( ) end": 2, "function f [ 1 ] ( ) end": 2, "function f ( 1 ) end": 3, "function f ( a b ) end": 4, "function f ( a , ) end": 5, "function f ( , a ) end": 3, "function f ( a = 1 ) end": 4, "function f ( ( a ) ) end": 3, "function f ( .. ) end": 3, "function f ( nil ) end": 3, "function f ( a , 1 )": 5, "function f ( ) end end": 5, "function f = 1": 2, "function function ( ) end": 1, "function \"f\" ( ) end": 1,
		"do": 1, "do f": 2, "do break": 2, "do do end": 3, "do then end": 1, "do 1 end": 2,
		"while": 1, "while do end": 1, "while a": 2, "while a then end": 2, "while a b do end": 2, "while a = b do end": 2, "while a do": 3, "while local": 1, "while ( a do": 3, "while a , b do": 2,
		"for": 1, "for 1": 1, "for i": 2, "for i in": 2, "for i , j = 1 , 2 do end": 2, "for i = 1": 4, "for i = 1 do": 4, "for i = 1 , do": 5, "for i = 1 , 2": 6, "for i = 1 , 2 , 3 do": 6, "for i = 1 , 2 then": 6, "for i . j = 1 , 2 do": 2, "for i = , 1": 3, "for i = 1 , 2 do": 7, "for ( i )": 1, "for local i": 1, "for i == 1": 2, "for do": 1, "for a , b do end": 2,
		"if": 1, "if then": 1, "if a": 2, "if a do": 2, "if a end": 2, "if a then": 3, "if a else": 2, "if a elseif": 2, "if a then else": 4, "if a then else else": 4, "if a then else elseif": 4, "if a then elseif": 4, "if a then elseif then": 4, "if a then elseif b": 5, "if a then elseif b do": 5, "if a then elseif b then": 6, "if a then catch": 3, "if a = b then": 2, "if local": 1, "if a then elseif b else": 5, "if a then else if b then end": 8,
		"return 1 2": 2, "return a , b": 2, "return = 1": 1, "return local": 1, "return )": 1, "return ( )": 2, "return ( a": 3, "return ( a , b )": 3, "return ( a ]": 3, "return a b ( )": 2, "return return": 1, "return break": 1, "return then": 1, "return a = b": 2,
		"break a": 2, "break = 1": 1, "break 1": 2, "break )": 1, "break then": 1,
		"try": 1, "try catch": 2, "try catch end": 2, "try catch 1": 2, "try catch ( e )": 2, "try catch e": 3, "try catch e , f end": 3, "try catch e catch": 3, "try catch e else": 3, "try end": 1, "try e catch": 2, "try catch e = 1": 3, "try catch nil": 2,
		"f": 1, "f f": 1, "f ( ": 2, "f ( a": 3, "f ( a b )": 3, "f ( a , )": 4, "f ( , )": 2, "f ( , a )": 2, "f ( a = 1 )": 3, "f ( ( )": 3, "f ( ]": 2, "f { }": 1, "f \"s\"": 1, "f ( ) = 1": 3, "f ( ) f": 4, "f ( ) 1": 4, "f ( ) , g ( )": 3, "f ( local )": 2, "f ( end )": 2, "f ( .. )": 2,
		"a =": 2, "a = = b": 2, "a = b = c": 3, "a = b , c": 3, "a , b = c": 1, "a . = 1": 2, "a . 1 = 1": 2, "a . \"b\" = 1": 2, "a . ( b ) = 1": 2, "a . end = 1": 2, "a . . b = 1": 2, "a .": 2, "a [ ] = 1": 2, "a [ b = 1": 3, "a [ b , c ] = 1": 3, "a [ b ) = 1": 3, "a [": 2, "a [ b": 3, "a [ b ]": 4, "a + b = 1": 1, "a == b": 1, "a = local": 2, "a = end": 2, "a = return": 2, "a = ( b": 4, "a = ( b ]": 4, "a = ( ) b": 3, "a = )": 2, "a = b )": 3, "a = b end": 3, "a = b then": 3, "a = 1 2": 4, "a = nil nil": 4, "( a": 2, "(": 1, "( )": 1, "( a ) b": 3, "( a , b ) = 1": 2, "( a = 1 )": 2, "( f )": 3,
		"a = function": 3, "a = function f": 3, "a = function (": 4, "a = function ( )": 5, "a = function ( a": 5, "a = function ( 1": 4, "a = function ( a ,": 6, "a = function ( ) end end": 6, "a = function ( ) else": 5, "a = function ( ) return 1": 7, "a = not": 3, "a = b not c": 3, "a = b # c": 3, "a = - ": 3, "a = - = b": 3, "a = b ..": 4, "a = b .. .. c": 4, "a = b . . c": 4, "a = b < > c": 4, "a = b + * c": 4, "a = b and or c": 4, "a = b and and": 4, "a = b + then": 4,
	} {
		fails(t, lines(text), api.ErrForm, at)
		fails(t, lines("break "+text), api.ErrForm, at+1)
		fails(t, lines("local x = y ( ) do end "+text), api.ErrForm, at+8)
	}
}

// What stands behind the first token that is wrong is not asked, but by lex.
func TestTheFirstIsTold(t *testing.T) {
	fails(t, "f\n\n)\n(\n= 1", api.ErrForm, 2)
	fails(t, "local\n1\n"+strings.Repeat("(", 100), api.ErrForm, 1)
	fails(t, "x = \n"+strings.Repeat("(", 65)+"\n)", api.ErrLong, 1)
	for code, word := range map[api.Errno]string{api.ErrWord: "$", api.ErrOver: "9223372036854775808", api.ErrLong: `"` + strings.Repeat("a", 4097) + `"`} {
		for _, ahead := range []string{"", "f", "local 1", "end", "= ", "x = )", "return 1 2", "x = " + strings.Repeat("(", 65), strings.Repeat("do ", 65), "f()", "x = "} {
			fails(t, ahead+"\n\n"+word+"\n", code, 2)
			fails(t, ahead+"\n\n"+word+"\n f f $ ) \n\"", code, 2)
		}
	}
	fails(t, "f f", api.ErrForm, 0)
	fails(t, "f f \"", api.ErrWord, 0)
	fails(t, "f\nf\n1x", api.ErrWord, 2)
	fails(t, "f\nf\n"+strings.Repeat("n", 25), api.ErrWord, 2)
	fails(t, "f\nf\n"+strings.Repeat(" ", 1<<15), api.ErrLong, 0)
	fails(t, strings.Repeat("\n", 1<<15)+"f", api.ErrLong, 0)
	fails(t, strings.Repeat("\n", 1<<15-1)+"f", api.ErrForm, 1<<15-1)
	fails(t, "f"+strings.Repeat("\n", 1<<15-1), api.ErrForm, 1<<15-1)
}

func TestSameAgain(t *testing.T) {
	const text = "local a = {1, b = -2}\nfunction f(x, y) return x[y](a, 3) end if a then f() else while a do break end end"
	first, again := reads(t, text), reads(t, text)
	if !reflect.DeepEqual(first, again) {
		t.Error(tell(first), tell(again))
	}
	want := tell(again)
	spoil(first)
	if got := tell(again); got != want {
		t.Errorf("%s became %s", want, got)
	}
	if got := tell(reads(t, text)); got != want {
		t.Errorf("%s, then %s", want, got)
	}
	_, err := Parse("f\nf")
	err.(*api.Fault).At, err.(*api.Fault).Code = 7, api.ErrNil
	fails(t, "f\nf", api.ErrForm, 1)
}

// spoil overwrites all of a tree.
func spoil(b []*api.Stmt) {
	for i, s := range b {
		spoil(s.A)
		spoil(s.B)
		spoilExprs(s.L, s.R, s.To)
		*s, b[i] = api.Stmt{Kind: -1}, nil
	}
}

func spoilExprs(l ...*api.Expr) {
	for _, e := range l {
		if e == nil {
			continue
		}
		spoilExprs(e.L, e.R)
		spoilExprs(e.Keys...)
		spoilExprs(e.Args...)
		spoil(e.Body)
		clear(e.Keys)
		clear(e.Args)
		clear(e.Params)
		*e = api.Expr{Kind: -1}
	}
}

// The chapter's examples, row by row.

func TestExamples(t *testing.T) {
	a, b, c := nameOf(0, "a"), nameOf(0, "b"), nameOf(0, "c")
	is(t, `a = 1 + 2 * 3 .. "x" .. b`, setOf(0, a, binOf(0, binOf(0, intOf(0, 1), "+", binOf(0, intOf(0, 2), "*", intOf(0, 3))), "..", binOf(0, strOf(0, "x"), "..", b))))
	is(t, "return not a == -b * c", returnOf(0, binOf(0, unOf(0, "not", a), "==", binOf(0, unOf(0, "-", b), "*", c))))
	is(t, `f(x).y[1]("s")`, doOf(0, callOf(0, indexOf(0, indexOf(0, callOf(0, nameOf(0, "f"), nameOf(0, "x")), strOf(0, "y")), intOf(0, 1)), strOf(0, "s"))))
	is(t, "if a then elseif b then c() end", &api.Stmt{Kind: api.StIf, R: a, B: blockOf(&api.Stmt{Kind: api.StIf, R: b, A: blockOf(doOf(0, callOf(0, c)))})})
	is(t, "t = {1, x = 2, [3] = 4}", setOf(0, nameOf(0, "t"), tableOf(0, nil, intOf(0, 1), strOf(0, "x"), intOf(0, 2), intOf(0, 3), intOf(0, 4))))
	for _, text := range []string{"(a) = 1", "f", "return 1 2", "local 1", "{} = 2"} {
		fails(t, text, api.ErrForm, 0)
	}
}
