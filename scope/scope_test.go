package scope

import (
	"errors"
	"slices"
	"strconv"
	"strings"
	"testing"

	"tallow/api"
	"tallow/parse"
)

// Trees.

func nilOf() *api.Expr { return &api.Expr{Kind: api.ExNil} }

func nameOf(text string) *api.Expr { return &api.Expr{Kind: api.ExName, Text: text} }

func indexOf(l, r *api.Expr) *api.Expr { return &api.Expr{Kind: api.ExIndex, L: l, R: r} }

func callOf(l *api.Expr, args ...*api.Expr) *api.Expr {
	return &api.Expr{Kind: api.ExCall, L: l, Args: args}
}

func funcOf(params []string, body ...*api.Stmt) *api.Expr {
	return &api.Expr{Kind: api.ExFunc, Params: params, Body: body}
}

func unOf(r *api.Expr) *api.Expr { return &api.Expr{Kind: api.ExUn, Text: "-", R: r} }

func binOf(l, r *api.Expr) *api.Expr { return &api.Expr{Kind: api.ExBin, Text: "+", L: l, R: r} }

// tableOf wants keys and items by turns.
func tableOf(items ...*api.Expr) *api.Expr {
	t := &api.Expr{Kind: api.ExTable}
	for i := 0; i < len(items); i += 2 {
		t.Keys, t.Args = append(t.Keys, items[i]), append(t.Args, items[i+1])
	}
	return t
}

func localOf(name string, r *api.Expr) *api.Stmt {
	return &api.Stmt{Kind: api.StLocal, Name: name, R: r}
}

func setOf(l, r *api.Expr) *api.Stmt { return &api.Stmt{Kind: api.StSet, L: l, R: r} }

func statementOf(r *api.Expr) *api.Stmt { return &api.Stmt{Kind: api.StCall, R: r} }

func doOf(a ...*api.Stmt) *api.Stmt { return &api.Stmt{Kind: api.StDo, A: a} }

func whileOf(r *api.Expr, a ...*api.Stmt) *api.Stmt {
	return &api.Stmt{Kind: api.StWhile, R: r, A: a}
}

func ifOf(r *api.Expr, a, b []*api.Stmt) *api.Stmt {
	return &api.Stmt{Kind: api.StIf, R: r, A: a, B: b}
}

func forOf(name string, r, to *api.Expr, a ...*api.Stmt) *api.Stmt {
	return &api.Stmt{Kind: api.StFor, Name: name, R: r, To: to, A: a}
}

func returnOf(r *api.Expr) *api.Stmt { return &api.Stmt{Kind: api.StReturn, R: r} }

func breakOf() *api.Stmt { return &api.Stmt{Kind: api.StBreak} }

func tryOf(name string, a, b []*api.Stmt) *api.Stmt {
	return &api.Stmt{Kind: api.StTry, Name: name, A: a, B: b}
}

func localFunctionOf(name string, r *api.Expr) *api.Stmt {
	return &api.Stmt{Kind: api.StFunc, Name: name, R: r}
}

func blockOf(stmts ...*api.Stmt) []*api.Stmt { return stmts }

func a() *api.Expr { return nameOf("a") }
func b() *api.Expr { return nameOf("b") }
func c() *api.Expr { return nameOf("c") }

// Answers.

func marked(text string, boxed bool) string {
	if boxed {
		return text + "b"
	}
	return text
}

func useText(u api.Use) string {
	switch {
	case u.At == api.AtLocal:
		return marked(strconv.Itoa(u.Index), u.Boxed)
	case u.At == api.AtUp:
		return marked("u"+strconv.Itoa(u.Index), u.Boxed)
	case u == api.Use{At: api.AtGlobal}:
		return "g"
	default:
		return "none"
	}
}

// told writes a scope: its uses, what is declared, its names from outside. A b stands behind what is boxed, a u ahead of what is from outside.
func told(s api.Scope) string {
	uses, decls, ups := []string{}, []string{}, []string{}
	for _, u := range s.Uses {
		uses = append(uses, useText(u))
	}
	for _, d := range s.Decls {
		decls = append(decls, marked(strconv.Itoa(d.Reg), d.Boxed))
	}
	for _, u := range s.Ups {
		ups = append(ups, map[bool]string{true: "", false: "u"}[u.Local]+strconv.Itoa(u.Index))
	}
	return strings.Join(uses, " ") + "|" + strings.Join(decls, " ") + "|" + strings.Join(ups, " ")
}

func allTold(l []api.Scope) []string {
	texts := []string{}
	for _, s := range l {
		texts = append(texts, told(s))
	}
	return texts
}

func read(t *testing.T, source string) []*api.Stmt {
	t.Helper()
	l, err := parse.Parse(source)
	if err != nil {
		t.Fatalf("Parse(%s): %v", source, err)
	}
	return l
}

// resolves wants these scopes of statements.
func resolves(t *testing.T, l []*api.Stmt, want ...string) {
	t.Helper()
	scopes, err := Resolve(l)
	if err != nil || !slices.Equal(allTold(scopes), want) {
		t.Errorf("%q, %v, want %q", allTold(scopes), err, want)
	}
}

// tells wants these scopes of a source.
func tells(t *testing.T, source string, want ...string) {
	t.Helper()
	scopes, err := Resolve(read(t, source))
	if err != nil || !slices.Equal(allTold(scopes), want) {
		t.Errorf("%s: %q, %v, want %q", source, allTold(scopes), err, want)
	}
}

// refuses wants that fault of statements.
func refuses(t *testing.T, code api.Errno, line int, l ...*api.Stmt) {
	t.Helper()
	scopes, err := Resolve(l)
	var f *api.Fault
	if scopes != nil || !errors.As(err, &f) || *f != (api.Fault{Code: code, At: line}) {
		t.Errorf("%d scopes, %v, want %d at %d", len(scopes), err, code, line)
	}
}

// P7.1: ordinary sources

func TestExamples(t *testing.T) {
	tells(t, "local a = b  local b = a  a = b", "g 0 0 1|0 1|")
	tells(t, "local a = 1  do local b = a end  local c = a", "0 0|0 1 1|")
	tells(t, "local a  local f = function(x) return a + x end", "|0b 1|", "u0 0|0|0")
	tells(t, "local a  local f = function() return function() return a end end", "|0b 1|", "||0", "u0||u0")
	tells(t, "for i = 1, n do local x = i end", "g 2|2 3|")
	refuses(t, api.ErrBreak, 0, read(t, "break")...)
	refuses(t, api.ErrBreak, 1, read(t, "while a do\nlocal f = function() break end end")...)
	refuses(t, api.ErrTwice, 2, read(t, "local a\n\nlocal f = function(a, a) end")...)
}

func TestEmptyLists(t *testing.T) {
	resolves(t, nil, "||")
	resolves(t, blockOf(), "||")
	for _, l := range [][]*api.Stmt{nil, {}} {
		for _, params := range [][]string{nil, {}} {
			resolves(t, blockOf(doOf(l...), whileOf(nilOf(), l...), ifOf(nilOf(), l, l), forOf("i", nilOf(), nilOf(), l...), tryOf("e", l, l), returnOf(funcOf(params, l...))), "|2 0|", "||")
		}
		for _, e := range [][]*api.Expr{nil, {}} {
			resolves(t, append(blockOf(returnOf(&api.Expr{Kind: api.ExTable, Keys: e, Args: nil}), statementOf(callOf(a(), e...))), l...), "g||")
		}
	}
}

// With a, b, c, d in the registers 0 to 3, which uses come one behind the other, and what is declared behind these four.
func TestOrder(t *testing.T) {
	for _, x := range []struct{ source, uses, decls string }{
		{"local x = a", "0", " 4"}, {"local x", "", " 4"}, {"local x = a + b x = x", "0 1 4 4", " 4"}, {"local x = x local y = x", "g 4", " 4 5"},
		{"a = b", "0 1", ""}, {"d[c] = b", "3 2 1", ""}, {"x.y = a", "g 0", ""}, {"a[b][c] = d", "0 1 2 3", ""}, {"f(a)[b] = c", "g 0 1 2", ""},
		{"a()", "0", ""}, {"d(c, b, a)", "3 2 1 0", ""}, {"a(b)(c)", "0 1 2", ""},
		{"do a = b end c = d", "0 1 2 3", ""}, {"do local x = a x = b end x = d", "0 4 1 g 3", " 4"},
		{"while d do c = b end a = a", "3 2 1 0 0", ""}, {"while x do local x = x end", "g g", " 4"},
		{"if d then c = b else a = b end", "3 2 1 0 1", ""}, {"if d then elseif c then b = a else a = b end", "3 2 1 0 0 1", ""}, {"if x then local x = a x = x else x = b end x = c", "g 0 4 4 g 1 g 2", " 4"}, {"if a then local x else local x x = b end", "0 4 1", " 4 4"},
		{"for i = d, c do b = i a = i end i = a", "3 2 1 6 0 6 g 0", " 6"}, {"for a = a, a do a = b end a = b", "0 0 6 1 0 1", " 6"}, {"for x = x, x do local y = x x = y end", "g g 6 6 7", " 6 7"},
		{"return d", "3", ""}, {"return", "", ""},
		{"while a do break end", "0", ""},
		{"try d = c catch x b = x end x = a", "3 2 1 4 g 0", " 4"}, {"try local x = a catch y x = y end", "0 g 4", " 4 4"}, {"try catch a a = b end a = b", "4 1 0 1", " 4"},
		{"return nil", "", ""}, {"return true", "", ""}, {"return false", "", ""}, {"return 5", "", ""}, {"return \"a\"", "", ""},
		{"return d[c]", "3 2", ""}, {"return d.c", "3", ""}, {"return d(c, a, b)", "3 2 0 1", ""}, {"return d()", "3", ""}, {"return -d + #c .. (not b) - ~a", "3 2 1 0", ""}, {"return d + c * (b .. a)", "3 2 1 0", ""}, {"return d and c or b == a", "3 2 1 0", ""},
		{"return {}", "", ""}, {"return {d, c}", "3 2", ""}, {"return {[d] = c, [b] = a}", "3 2 1 0", ""}, {"return {d = c, b, [a] = d}", "2 1 0 3", ""},
	} {
		tells(t, "local a local b local c local d "+x.source, x.uses+"|0 1 2 3"+x.decls+"|")
	}
	tells(t, "local a local function f() f = a end f = a", "1b 0b|0b 1b|", "u0 u1||1 0")
	tells(t, "function f() f = a end f = a", "g g g||", "g g||")
	tells(t, "local a function a() a = b end a = b", "0b 0b g|0b|", "u0 g||0")
	tells(t, "local a return function(b, c) a = b b = c end", "|0b|", "u0 0 0 1|0 1|0")
}

// Functions have numbers in the order in which the walk comes to them: here they are told by how many parameters they have.
func TestOrderOfFunctions(t *testing.T) {
	functions := strings.NewReplacer("F1", "(function(p) end)", "F2", "(function(p, q) end)", "F3", "(function(p, q, r) end)")
	for _, x := range []struct{ source, whole string }{
		{"F1[F2] = F3", "||"}, {"F1(F2, F3)", "||"}, {"local x = F1 local y = F2 return F3", "|0 1|"}, {"local x = F1 do x(F2) end x = F3", "0 0|0|"},
		{"while F1 do g(F2) end return F3", "g||"}, {"if F1 then g(F2) else g(F3) end", "g g||"}, {"if F1 then elseif F2 then return F3 end", "||"},
		{"for i = F1, F2 do g(F3) end", "g|2|"}, {"try g(F1) catch e g(F2) end return F3", "g g|0|"},
		{"return {[F1] = F2, F3}", "||"}, {"return {F1, [F2] = F3}", "||"}, {"return F1 + -F2 == F3", "||"}, {"local function g(p) return function(p, q) return F3 end end", "|0|"},
	} {
		tells(t, functions.Replace(x.source), x.whole, "|0|", "|0 1|", "|0 1 2|")
	}
	tells(t, "return function() a = function(x) end return function(x, y) return function(x, y, z) end end end", "||", "g||", "|0|", "|0 1|", "|0 1 2|")
}

func TestRegisters(t *testing.T) {
	for _, x := range []struct{ source, decls string }{
		{"local a local b local c", "0 1 2"}, {"local a local a local a", "0 1 2"},
		{"do local a local b end do local a end local b", "0 1 0 0"}, {"do local a do local b do local c end local d end local e end local f", "0 1 2 2 1 0"},
		{"local a while 1 do local b local c end local d", "0 1 2 1"}, {"local a if 1 then local b local c else local d end local e", "0 1 2 1 1"}, {"if 1 then local a elseif 2 then local b else local c end", "0 0 0"},
		{"for i = 1, 2 do local a end local b", "2 3 0"}, {"local a for i = 1, 2 do for j = 1, 2 do local b end local c end local d", "0 3 6 7 4 1"}, {"for i = 1, 2 do end for i = 1, 2 do end", "2 2"}, {"do for i = 1, 2 do local a end local b end local c", "2 3 0 0"},
		{"try local a local b catch c local d end local e", "0 1 0 1 0"}, {"local a try catch b try local c catch d local e end end local f", "0 1 2 2 3 1"},
		{"local function a() end local b local function c() end", "0 1 2"}, {"do local function a() end end local function b() end", "0 0"},
		// Other functions' registers are none of these.
		{"local a local f = function(x, y) local z end local b", "0 1 2"}, {"for i = 1, function() for j = 1, 2 do local x end local y end do end local b", "2 0"},
	} {
		scopes, err := Resolve(read(t, x.source))
		if err != nil || told(api.Scope{Decls: scopes[0].Decls}) != "|"+x.decls+"|" {
			t.Errorf("%s: %q, %v, want %s", x.source, allTold(scopes), err, x.decls)
		}
	}
	tells(t, "local a return function(x, y) local z for i = x, y do local function f(p) end end try local q catch e end local l end", "|0|", "0 1|0 1 2 5 6 3 3 3|", "|0|")
}

// A name that is declared again hides the one ahead, as far as the block goes.
func TestDeclaredAgain(t *testing.T) {
	tells(t, "local a local a local a return a", "2|0 1 2|")
	tells(t, "local a do local a local a a = a end return a", "2 2 0|0 1 2|")
	tells(t, "local a local b do local a do local b local a a = b end a = b end return a + b", "4 3 2 1 0 1|0 1 2 3 4|")
	tells(t, "local a for a = a, a do local a = a a = a end return a", "0 0 3 4 4 0|0 3 4|")
	tells(t, "local a try local a = a a = 1 catch a local a = a a = 2 end return a", "0 1 1 2 0|0 1 1 2|")
	tells(t, "local a = a local a = a return a", "g 0 1|0 1|")
	tells(t, "local a local a return function() return a end", "|0 1b|", "u0||1")
	tells(t, "local a do local a end return function() return a end", "|0b 1|", "u0||0")
	tells(t, "local function f(a) local a = a return a end", "|0|", "0 1|0 1|")
	resolves(t, blockOf(localOf("", nil), localOf(strings.Repeat("x", 1<<16), nilOf()), setOf(nameOf(""), nameOf(strings.Repeat("x", 1<<16))), setOf(nameOf("x"), nameOf("end"))), "0 1 g g|0 1|")
	// What has a register, but no name, is not meant by one.
	resolves(t, blockOf(forOf("i", nameOf(""), nilOf(), returnOf(nameOf("")))), "g g|2|")
	resolves(t, blockOf(forOf("", nameOf(""), nilOf(), localOf("a", nameOf(""))), returnOf(nameOf(""))), "g 2 g|2 3|")
}

// P7.1: functions within functions

func TestNamesFromOutside(t *testing.T) {
	// Each once, in the order of the uses.
	tells(t, "local a local b local c return function() return c + a + c + b + a + x end", "|0b 1b 2b|", "u0 u1 u0 u2 u1 g||2 0 1")
	tells(t, "local a return function() a = a a = 1 end", "|0b|", "u0 u0 u0||0")
	// Two functions beside one another have each its own, and one within another adds to that.
	tells(t, "local a local b local f = function() return a end local g = function() return b + a end", "|0b 1b 2 3|", "u0||0", "u0 u1||1 0")
	tells(t, "local a local b return function() local f = function() return b end local g = function() return a + b end return a + b end", "|0b 1b|", "u1 u0|0 1|1 0", "u0||u0", "u0 u1||u1 u0")
	tells(t, "local a local b return function() local x = a local f = function() return b + a end return b end", "|0b 1b|", "u0 u1|0 1|0 1", "u0 u1||u1 u0")
	tells(t, "local a return function(b) return function(c) return function(d) return a + b + c + d + e end end end", "|0b|", "|0b|0", "|0b|u0 0", "u0 u1 u2 0 g|0|u0 u1 0")
	tells(t, "local a return function(b) return function() return function() return b + a end end end", "|0b|", "|0b|0", "||0 u0", "u0 u1||u0 u1")
	// What is declared in between is the one that is meant; in the function around, another one of that name may be.
	tells(t, "local a return function() return function() local a = a return function() return a end end end", "|0b|", "||0", "u0|0b|u0", "u0||0")
	tells(t, "local a return function(a) return function() return a end end", "|0|", "|0b|", "u0||0")
	tells(t, "local a return function() do local a local f = function() return a end end return function() return a end end", "|0b|", "|0b 1|0", "u0||0", "u0||u0")
	tells(t, "local a return function() a = 1 local a return function() return a end end", "|0b|", "u0|0b|0", "u0||0")
	tells(t, "local a return function() local f = function() return a end local a local g = function() return a end return f end", "|0b|", "0|0 1b 2|0", "u0||u0", "u0||1")
}

func TestBoxed(t *testing.T) {
	// A use ahead of the function, or behind it, is told alike.
	tells(t, "local a a = 1 local f = function() return a end a = 2", "0b 0b|0b 1|", "u0||0")
	tells(t, "local a local b a = b b = function() a = 1 end b = a", "0b 1 1 1 0b|0b 1|", "u0||0")
	tells(t, "for i = 1, 2 do local f = function() return i end x = i end", "g 2b|2b 3|", "u0||2")
	tells(t, "try catch e return function() return function() return e end end end return e", "g|0b|", "||0", "u0||u0")
	tells(t, "local function f() return f() end f()", "0b|0b|", "u0||0")
	tells(t, "local function f() end f()", "0|0|", "||")
	tells(t, "local f = function() return f end return f", "0|0|", "g||")
	tells(t, "return function(a, b) a = b return function() return b end end", "||", "0 1b|0 1b|", "u0||1")
	// Of two in one register it is told one by one.
	tells(t, "do local a a = 1 end do local a local f = function() return a end a = 1 end do local a a = 1 end", "0 0b 0|0 0b 1 0|", "u0||0")
	// One of a function within is another one.
	tells(t, "local a a = 1 local f = function() local a a = 2 end", "0|0 1|", "0|0|")
}

// R5, R6: an answer is new each time, no two lists of it share anything, and what is handed in stays.
func TestAnswersAreNew(t *testing.T) {
	source := "local a local b return function(c) a = b + c return function() return a + c end end"
	l := read(t, source)
	first, _ := Resolve(l)
	want := allTold(first)
	for i, s := range first {
		for k := range s.Uses {
			s.Uses[k] = api.Use{}
		}
		for k := range s.Decls {
			s.Decls[k] = api.Decl{Reg: 9}
		}
		for k := range s.Ups {
			s.Ups[k] = api.Up{Index: 9}
		}
		first[i] = api.Scope{Uses: append(s.Uses, api.Use{}), Decls: append(s.Decls, api.Decl{}), Ups: append(s.Ups, api.Up{})}
		if told := allTold(first); !slices.Equal(told[i+1:], want[i+1:]) {
			t.Errorf("%q, want %q", told, want)
		}
	}
	resolves(t, l, want...)
	resolves(t, read(t, source), want...)
}
