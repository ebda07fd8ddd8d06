package print

import (
	"slices"
	"strconv"
	"strings"
	"testing"

	"tallow/api"
	"tallow/lex"
	"tallow/parse"
)

// Trees.

func nilOf() *api.Expr { return &api.Expr{Kind: api.ExNil} }

func intOf(n int64) *api.Expr { return &api.Expr{Kind: api.ExInt, N: n} }

func strOf(text string) *api.Expr { return &api.Expr{Kind: api.ExStr, Text: text} }

func nameOf(text string) *api.Expr { return &api.Expr{Kind: api.ExName, Text: text} }

func indexOf(l, r *api.Expr) *api.Expr { return &api.Expr{Kind: api.ExIndex, L: l, R: r} }

func callOf(l *api.Expr, args ...*api.Expr) *api.Expr {
	return &api.Expr{Kind: api.ExCall, L: l, Args: args}
}

func funcOf(params []string, body ...*api.Stmt) *api.Expr {
	return &api.Expr{Kind: api.ExFunc, Params: params, Body: body}
}

func unOf(sign string, r *api.Expr) *api.Expr { return &api.Expr{Kind: api.ExUn, Text: sign, R: r} }

func binOf(l *api.Expr, sign string, r *api.Expr) *api.Expr {
	return &api.Expr{Kind: api.ExBin, Text: sign, L: l, R: r}
}

// tableOf wants keys and items by turns.
func tableOf(items ...*api.Expr) *api.Expr {
	t := &api.Expr{Kind: api.ExTable}
	for i := 0; i < len(items); i += 2 {
		t.Keys, t.Args = append(t.Keys, items[i]), append(t.Args, items[i+1])
	}
	return t
}

func localOf(name string, r *api.Expr) *api.Stmt {
	return &api.Stmt{Kind: api.StLocal, Name: name, R: r}
}

func setOf(l, r *api.Expr) *api.Stmt { return &api.Stmt{Kind: api.StSet, L: l, R: r} }

func statementOf(r *api.Expr) *api.Stmt { return &api.Stmt{Kind: api.StCall, R: r} }

func doOf(a ...*api.Stmt) *api.Stmt { return &api.Stmt{Kind: api.StDo, A: a} }

func whileOf(r *api.Expr, a ...*api.Stmt) *api.Stmt {
	return &api.Stmt{Kind: api.StWhile, R: r, A: a}
}

func ifOf(r *api.Expr, a, b []*api.Stmt) *api.Stmt {
	return &api.Stmt{Kind: api.StIf, R: r, A: a, B: b}
}

func forOf(name string, r, to *api.Expr, a ...*api.Stmt) *api.Stmt {
	return &api.Stmt{Kind: api.StFor, Name: name, R: r, To: to, A: a}
}

func returnOf(r *api.Expr) *api.Stmt { return &api.Stmt{Kind: api.StReturn, R: r} }

func breakOf() *api.Stmt { return &api.Stmt{Kind: api.StBreak} }

func tryOf(name string, a, b []*api.Stmt) *api.Stmt {
	return &api.Stmt{Kind: api.StTry, Name: name, A: a, B: b}
}

func localFunctionOf(name string, r *api.Expr) *api.Stmt {
	return &api.Stmt{Kind: api.StFunc, Name: name, R: r}
}

func blockOf(stmts ...*api.Stmt) []*api.Stmt { return stmts }

func a() *api.Expr { return nameOf("a") }
func b() *api.Expr { return nameOf("b") }
func c() *api.Expr { return nameOf("c") }

// levels has the operators between two operands, the weakest first.
func levels() [][]string {
	return [][]string{{"or"}, {"and"}, {"<", "<=", ">", ">=", "==", "~="}, {"|"}, {"~"}, {"&"}, {"<<", ">>"}, {".."}, {"+", "-"}, {"*", "//", "%"}}
}

func operators() []string { return slices.Concat(levels()...) }

func ahead() []string { return []string{"not", "-", "#", "~"} }

func reserved() []string {
	return strings.Fields("and break catch do else elseif end false for function if local nil not or return then true try while")
}

// teller writes a tree with all its fields but lines. What has too many parts it leaves, for trees may be their own parts.
type teller struct {
	strings.Builder
	parts int
}

func tell(l []*api.Stmt) string {
	var t teller
	t.stmts(l)
	return t.String()
}

func (t *teller) stmts(l []*api.Stmt) {
	t.WriteString("[")
	for _, s := range l {
		if t.parts++; s == nil || t.parts > 70000 {
			t.WriteString("-")
			continue
		}
		t.WriteString("(st " + strconv.Itoa(s.Kind) + strconv.Quote(s.Name))
		t.exprs([]*api.Expr{s.L, s.R, s.To})
		t.stmts(s.A)
		t.stmts(s.B)
		t.WriteString(")")
	}
	t.WriteString("]")
}

func (t *teller) exprs(l []*api.Expr) {
	t.WriteString("[")
	for _, e := range l {
		if t.parts++; e == nil || t.parts > 70000 {
			t.WriteString("-")
			continue
		}
		t.WriteString("(ex " + strconv.Itoa(e.Kind) + " " + strconv.FormatInt(e.N, 10) + strconv.Quote(e.Text))
		t.exprs([]*api.Expr{e.L, e.R})
		t.exprs(e.Keys)
		t.exprs(e.Args)
		for _, p := range e.Params {
			t.WriteString(strconv.Quote(p))
		}
		t.stmts(e.Body)
		t.WriteString(")")
	}
	t.WriteString("]")
}

// prints wants that text of those statements, that it is read as they are, and that they are as they were.
func prints(t *testing.T, want string, l ...*api.Stmt) {
	t.Helper()
	was := tell(l)
	text, e := Print(l)
	if text != want || e != api.OK {
		t.Errorf("Print(%.1000s) = %.1000q, %d, want %.1000q", was, text, e, want)
		return
	}
	read, err := parse.Parse(text)
	if err != nil || tell(read) != was {
		t.Errorf("%.1000q is read as %.1000s, %v, want %.1000s", text, tell(read), err, was)
	}
	if !Same(read, l) {
		t.Errorf("%.1000q is read as %.1000s, but not the same as %.1000s", text, tell(read), was)
	}
	if tell(l) != was {
		t.Errorf("Print changed %.1000s to %.1000s", was, tell(l))
	}
}

// printsExpr wants that text of an expression.
func printsExpr(t *testing.T, want string, e *api.Expr) {
	t.Helper()
	prints(t, "return "+want+"\n", returnOf(e))
}

func refuses(t *testing.T, want api.Errno, l ...*api.Stmt) {
	t.Helper()
	text, e := Print(l)
	if text != "" || e != want {
		t.Errorf("Print(%.1000s) = %.1000q, %d, want error %d", tell(l), text, e, want)
	}
}

// writes wants that text of what is read from a source.
func writes(t *testing.T, source, want string) {
	t.Helper()
	l, err := parse.Parse(source)
	if err != nil {
		t.Errorf("Parse(%.1000q): %v", source, err)
		return
	}
	prints(t, want, l...)
}

// P6.1: statements

func TestNothing(t *testing.T) {
	prints(t, "")
	prints(t, "", []*api.Stmt{}...)
}

func TestEachStatement(t *testing.T) {
	for want, l := range map[string][]*api.Stmt{
		"local x\n":                {localOf("x", nil)},
		"local x = a\n":            {localOf("x", a())},
		"local x = nil\n":          {localOf("x", nilOf())},
		"local x = a + b\n":        {localOf("x", binOf(a(), "+", b()))},
		"a = b\n":                  {setOf(a(), b())},
		"a.b = c\n":                {setOf(indexOf(a(), strOf("b")), c())},
		"a[b] = c\n":               {setOf(indexOf(a(), b()), c())},
		"f = function()\nend\n":    {setOf(nameOf("f"), funcOf(nil))},
		"{}.x = a\n":               {setOf(indexOf(tableOf(), strOf("x")), a())},
		"(a + b).x = c\n":          {setOf(indexOf(binOf(a(), "+", b()), strOf("x")), c())},
		"f()\n":                    {statementOf(callOf(nameOf("f")))},
		"f(a)(b)\n":                {statementOf(callOf(callOf(nameOf("f"), a()), b()))},
		"(function()\nend)()\n":    {statementOf(callOf(funcOf(nil)))},
		"1()\n":                    {statementOf(callOf(intOf(1)))},
		"do\nend\n":                {doOf()},
		"do\nbreak\nend\n":         {doOf(breakOf())},
		"do\nbreak\na()\nend\n":    {doOf(breakOf(), statementOf(callOf(a())))},
		"do\ndo\nend\nend\n":       {doOf(doOf())},
		"while a do\nend\n":        {whileOf(a())},
		"while a or b do\nend\n":   {whileOf(binOf(a(), "or", b()))},
		"while a do\nbreak\nend\n": {whileOf(a(), breakOf())},
		"for i = a, b do\nend\n":   {forOf("i", a(), b())},
		"for i = 1, 2 + 3 do\nbreak\nbreak\nend\n": {forOf("i", intOf(1), binOf(intOf(2), "+", intOf(3)), breakOf(), breakOf())},
		"return\n":                   {returnOf(nil)},
		"return a\n":                 {returnOf(a())},
		"return nil\n":               {returnOf(nilOf())},
		"do\nreturn\nend\n":          {doOf(returnOf(nil))},
		"break\n":                    {breakOf()},
		"try\ncatch e\nend\n":        {tryOf("e", nil, nil)},
		"try\nbreak\ncatch e\nend\n": {tryOf("e", blockOf(breakOf()), nil)},
		"try\ncatch e\nbreak\nend\n": {tryOf("e", nil, blockOf(breakOf()))},
		"try\na()\nb()\ncatch e\nc()\nreturn\nend\n":        {tryOf("e", blockOf(statementOf(callOf(a())), statementOf(callOf(b()))), blockOf(statementOf(callOf(c())), returnOf(nil)))},
		"local function f()\nend\n":                         {localFunctionOf("f", funcOf(nil))},
		"local function f(a)\nend\n":                        {localFunctionOf("f", funcOf([]string{"a"}))},
		"local function f(a, b, a)\nbreak\nreturn a\nend\n": {localFunctionOf("f", funcOf([]string{"a", "b", "a"}, breakOf(), returnOf(a())))},
		"break\nlocal x\nx = a\nx()\nreturn x\n":            {breakOf(), localOf("x", nil), setOf(nameOf("x"), a()), statementOf(callOf(nameOf("x"))), returnOf(nameOf("x"))},
	} {
		prints(t, want, l...)
		if l[len(l)-1].Kind != api.StReturn {
			prints(t, want+"break\n", append(l, breakOf())...)
		}
		prints(t, "do\n"+want+"end\n", doOf(l...))
	}
}

func TestIf(t *testing.T) {
	d := nameOf("d")
	for want, s := range map[string]*api.Stmt{
		"if a then\nend\n":                         ifOf(a(), nil, nil),
		"if a == b then\nend\n":                    ifOf(binOf(a(), "==", b()), nil, nil),
		"if a then\nbreak\nend\n":                  ifOf(a(), blockOf(breakOf()), nil),
		"if a then\nelse\nbreak\nend\n":            ifOf(a(), nil, blockOf(breakOf())),
		"if a then\nb()\nelse\nc()\nreturn\nend\n": ifOf(a(), blockOf(statementOf(callOf(b()))), blockOf(statementOf(callOf(c())), returnOf(nil))),
		"if a then\nelseif b then\nend\n":          ifOf(a(), nil, blockOf(ifOf(b(), nil, nil))),
		"if a then\nbreak\nelseif b then\nreturn\nelse\nbreak\nbreak\nend\n": ifOf(a(), blockOf(breakOf()), blockOf(
			ifOf(b(), blockOf(returnOf(nil)), blockOf(breakOf(), breakOf())))),
		"if a then\nelseif b then\nelseif c then\nelseif d then\nelse\nbreak\nend\n": ifOf(a(), nil, blockOf(ifOf(b(), nil, blockOf(ifOf(c(), nil, blockOf(ifOf(d, nil, blockOf(breakOf())))))))),
		"if a then\nelseif b then\nbreak\nelseif c then\nend\n":                      ifOf(a(), nil, blockOf(ifOf(b(), blockOf(breakOf()), blockOf(ifOf(c(), nil, nil))))),
		"if a then\nelse\nif b then\nend\nbreak\nend\n":                              ifOf(a(), nil, blockOf(ifOf(b(), nil, nil), breakOf())),
		"if a then\nelse\nbreak\nif b then\nend\nend\n":                              ifOf(a(), nil, blockOf(breakOf(), ifOf(b(), nil, nil))),
		"if a then\nelse\nif b then\nend\nif c then\nelseif d then\nend\nend\n":      ifOf(a(), nil, blockOf(ifOf(b(), nil, nil), ifOf(c(), nil, blockOf(ifOf(d, nil, nil))))),
		"if a then\nelse\ndo\nif b then\nend\nend\nend\n":                            ifOf(a(), nil, blockOf(doOf(ifOf(b(), nil, nil)))),
		"if a then\nif b then\nend\nend\n":                                           ifOf(a(), blockOf(ifOf(b(), nil, nil)), nil),
		"if a then\nif b then\nelse\nbreak\nend\nelse\nbreak\nend\n":                 ifOf(a(), blockOf(ifOf(b(), nil, blockOf(breakOf()))), blockOf(breakOf())),
		"if a then\nif b then\nelseif c then\nend\nelseif d then\nend\n":             ifOf(a(), blockOf(ifOf(b(), nil, blockOf(ifOf(c(), nil, nil)))), blockOf(ifOf(d, nil, nil))),
	} {
		prints(t, want, s)
		prints(t, want+"break\n", s, breakOf())
		prints(t, "while a do\n"+want+"end\n", whileOf(a(), s))
	}
	prints(t, "if a then\nend\n", ifOf(a(), []*api.Stmt{}, []*api.Stmt{}))
}

// P6.1: expressions

func TestEachExpression(t *testing.T) {
	for want, e := range map[string]*api.Expr{
		"nil":                                  nilOf(),
		"true":                                 {Kind: api.ExTrue},
		"false":                                {Kind: api.ExFalse},
		"0":                                    intOf(0),
		"907":                                  intOf(907),
		"9223372036854775807":                  intOf(1<<63 - 1),
		`""`:                                   strOf(""),
		`"s"`:                                  strOf("s"),
		`"end"`:                                strOf("end"),
		`" -- "`:                               strOf(" -- "),
		`"\n\t\\\"\x00\xff '"`:                 strOf("\n\t\\\"\x00\xff '"),
		"x":                                    nameOf("x"),
		"_End9":                                nameOf("_End9"),
		"a.b":                                  indexOf(a(), strOf("b")),
		"a[b]":                                 indexOf(a(), b()),
		"a.b[c].d":                             indexOf(indexOf(indexOf(a(), strOf("b")), c()), strOf("d")),
		"a[b[c]]":                              indexOf(a(), indexOf(b(), c())),
		"a[b + c]":                             indexOf(a(), binOf(b(), "+", c())),
		"a()":                                  callOf(a()),
		"a(b)":                                 callOf(a(), b()),
		"a(b, c, 1)":                           callOf(a(), b(), c(), intOf(1)),
		"a(b or c, - b, {})":                   callOf(a(), binOf(b(), "or", c()), unOf("-", b()), tableOf()),
		"a(b(c))()":                            callOf(callOf(a(), callOf(b(), c()))),
		"a.b(c).d":                             indexOf(callOf(indexOf(a(), strOf("b")), c()), strOf("d")),
		"function()\nend":                      funcOf(nil),
		"function(a)\nend":                     funcOf([]string{"a"}),
		"function(a, b)\nbreak\nreturn a\nend": funcOf([]string{"a", "b"}, breakOf(), returnOf(a())),
		"function()\nreturn function(b)\nend\nend": funcOf(nil, returnOf(funcOf([]string{"b"}))),
		"not a":                                  unOf("not", a()),
		"- 1":                                    unOf("-", intOf(1)),
		"# a":                                    unOf("#", a()),
		"~ a":                                    unOf("~", a()),
		"- a.b(c)":                               unOf("-", callOf(indexOf(a(), strOf("b")), c())),
		"- function()\nend":                      unOf("-", funcOf(nil)),
		"a + b":                                  binOf(a(), "+", b()),
		"function()\nend + function()\nend":      binOf(funcOf(nil), "+", funcOf(nil)),
		"{} .. {}":                               binOf(tableOf(), "..", tableOf()),
		"1 .. 2":                                 binOf(intOf(1), "..", intOf(2)),
		"{}":                                     tableOf(),
		"{a}":                                    tableOf(nil, a()),
		"{a, b, nil}":                            tableOf(nil, a(), nil, b(), nil, nilOf()),
		"{x = a}":                                tableOf(strOf("x"), a()),
		"{[a] = b}":                              tableOf(a(), b()),
		"{[a or b] = b and c}":                   tableOf(binOf(a(), "or", b()), binOf(b(), "and", c())),
		"{a, x = b, [1] = c, {}, [{}] = {{}}}":   tableOf(nil, a(), strOf("x"), b(), intOf(1), c(), nil, tableOf(), tableOf(), tableOf(nil, tableOf())),
		"{function()\nend, x = function()\nend}": tableOf(nil, funcOf(nil), strOf("x"), funcOf(nil)),
	} {
		printsExpr(t, want, e)
		prints(t, "x = "+want+"\ny()\n", setOf(nameOf("x"), e), statementOf(callOf(nameOf("y"))))
		printsExpr(t, "x(a, "+want+", b)", callOf(nameOf("x"), a(), e, b()))
	}
}

func TestListsThatAreEmpty(t *testing.T) {
	printsExpr(t, "{}", &api.Expr{Kind: api.ExTable, Keys: []*api.Expr{}})
	printsExpr(t, "{}", &api.Expr{Kind: api.ExTable, Args: []*api.Expr{}})
	printsExpr(t, "a()", &api.Expr{Kind: api.ExCall, L: a(), Args: []*api.Expr{}, Keys: []*api.Expr{}, Params: []string{}, Body: []*api.Stmt{}})
	printsExpr(t, "function()\nend", &api.Expr{Kind: api.ExFunc, Params: []string{}, Body: []*api.Stmt{}})
	prints(t, "do\nend\n", &api.Stmt{Kind: api.StDo, A: []*api.Stmt{}, B: []*api.Stmt{}})
	prints(t, "try\ncatch e\nend\n", tryOf("e", []*api.Stmt{}, []*api.Stmt{}))
}

func TestLinesAreNothing(t *testing.T) {
	for _, line := range []int{-1 << 63, -1, 1, 1<<63 - 1} {
		e := &api.Expr{Kind: api.ExBin, Line: line, Text: "+", L: &api.Expr{Kind: api.ExName, Line: -line, Text: "a"}, R: &api.Expr{Kind: api.ExInt, Line: line, N: 1}}
		prints(t, "local x = a + 1\nbreak\n", &api.Stmt{Kind: api.StLocal, Line: line, Name: "x", R: e}, &api.Stmt{Kind: api.StBreak, Line: 3 - line})
	}
}

// P6.1: names

// A name that is not reserved stands by itself; any other string is quoted, in brackets.
func TestNamesAndOtherTexts(t *testing.T) {
	bare := []string{"a", "Z", "_", "__", "x9", "_9", "End", "endx", "nilnil", "out", "self", strings.Repeat("x", 24), strings.Repeat("_", 24)}
	for _, name := range bare {
		if lex.Reserved(name) {
			t.Errorf("%q is reserved", name)
		}
		printsExpr(t, "t."+name, indexOf(nameOf("t"), strOf(name)))
		prints(t, "t."+name+" = 1\n", setOf(indexOf(nameOf("t"), strOf(name)), intOf(1)))
		printsExpr(t, "{"+name+" = 1}", tableOf(strOf(name), intOf(1)))
		printsExpr(t, "{1, "+name+" = "+name+"."+name+", "+name+"}", tableOf(nil, intOf(1), strOf(name), indexOf(nameOf(name), strOf(name)), nil, nameOf(name)))
	}
	others := map[string]string{
		"": `""`, " ": `" "`, "a ": `"a "`, " a": `" a"`, "a\n": `"a\n"`, "\ta": `"\ta"`, "a--": `"a--"`, "--": `"--"`, "--a": `"--a"`, "a--a": `"a--a"`, "a.b": `"a.b"`, "a b": `"a b"`, "a-": `"a-"`,
		"9": `"9"`, "1x": `"1x"`, "\"": `"\""`, "\"a\"": `"\"a\""`, "a\x00": `"a\x00"`, "\xc3\xa9": `"\xc3\xa9"`, "a\xc3\xa9": `"a\xc3\xa9"`, "+": `"+"`, "a=": `"a="`, "(": `"("`, "$": `"$"`,
		strings.Repeat("x", 25): `"` + strings.Repeat("x", 25) + `"`, strings.Repeat("x", 4096): `"` + strings.Repeat("x", 4096) + `"`,
	}
	for _, word := range reserved() {
		if !lex.Reserved(word) {
			t.Errorf("%q is not reserved", word)
		}
		others[word] = `"` + word + `"`
	}
	for text, quoted := range others {
		printsExpr(t, "t["+quoted+"]", indexOf(nameOf("t"), strOf(text)))
		prints(t, "t["+quoted+"] = 1\n", setOf(indexOf(nameOf("t"), strOf(text)), intOf(1)))
		printsExpr(t, "{["+quoted+"] = 1}", tableOf(strOf(text), intOf(1)))
		printsExpr(t, "{"+quoted+", ["+quoted+"] = "+quoted+"}", tableOf(nil, strOf(text), strOf(text), strOf(text)))
	}
}

// Only a string's name stands by itself: what else is an index, or a key, stands in brackets.
func TestBrackets(t *testing.T) {
	for want, e := range eachKind() {
		if e.Kind != api.ExStr {
			printsExpr(t, "t["+want+"]", indexOf(nameOf("t"), e))
			printsExpr(t, "{["+want+"] = a}", tableOf(e, a()))
		}
	}
}

// eachKind has an expression of each kind, by its text.
func eachKind() map[string]*api.Expr {
	return map[string]*api.Expr{
		"nil": nilOf(), "true": {Kind: api.ExTrue}, "false": {Kind: api.ExFalse}, "1": intOf(1), `"s"`: strOf("s"), "a": a(),
		"a.s": indexOf(a(), strOf("s")), "a[b]": indexOf(a(), b()), "a(b)": callOf(a(), b()), "function(p)\nbreak\nend": funcOf([]string{"p"}, breakOf()),
		"- a": unOf("-", a()), "a + b": binOf(a(), "+", b()), "{a}": tableOf(nil, a()),
	}
}

func TestIndexAndCallOfEachKind(t *testing.T) {
	for text, e := range eachKind() {
		want := text
		switch e.Kind {
		case api.ExUn, api.ExBin, api.ExFunc:
			want = "(" + text + ")"
		}
		printsExpr(t, want+".x", indexOf(e, strOf("x")))
		printsExpr(t, want+"[1]", indexOf(e, intOf(1)))
		printsExpr(t, want+"()", callOf(e))
		printsExpr(t, want+"("+text+")", callOf(e, e))
		printsExpr(t, want+"["+want+"(b)].x", indexOf(indexOf(e, callOf(e, b())), strOf("x")))
		printsExpr(t, "- "+want+"()", unOf("-", callOf(e)))
		prints(t, want+".x = 1\n", setOf(indexOf(e, strOf("x")), intOf(1)))
		prints(t, want+"()\n", statementOf(callOf(e)))
	}
}

// A line feed stands as / here.
func TestExamples(t *testing.T) {
	for source, want := range map[string]string{
		"a=1+2*3 b = (1+2)*3":                      "a = 1 + 2 * 3/b = (1 + 2) * 3/",
		"if a then elseif b then c() else d() end": "if a then/elseif b then/c()/else/d()/end/",
		`t["x"]=-(-1) t["end"]=not (a==b)`:         `t.x = - - 1/t["end"] = not (a == b)/`,
		"a=(b..c)..d..e a = 1-(2-3)":               "a = (b .. c) .. d .. e/a = 1 - (2 - 3)/",
		"f=function(x) return {x,k=1,[2]=3} end":   "f = function(x)/return {x, k = 1, [2] = 3}/end/",
		"function f() end":                         "f = function()/end/",
		"local function f() end":                   "local function f()/end/",
		"if a then else if b then else end end":    "if a then/elseif b then/end/",
		`((a))[("b")] = ((c))`:                     "a.b = c/",
		"do -- a\n end":                            "do/end/",
	} {
		writes(t, source, strings.ReplaceAll(want, "/", "\n"))
	}
}
