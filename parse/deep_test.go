package parse

import (
	"strings"
	"testing"

	"tallow/api"
)

// opener opens one thing at the word behind its @, holds another one, and closes it.
type opener struct{ first, last string }

func (o opener) around(n int, within string) string {
	return plain(strings.Repeat(o.first, n)) + within + strings.Repeat(o.last, n)
}

func (o opener) joins() bool { return strings.Contains(o.first, "..") }

func plain(text string) string { return strings.ReplaceAll(text, "@", "") }

// tooDeep wants that word to be wrong that stands behind the @: on the line 1, and then on the line 0 too.
func tooDeep(t *testing.T, text string) {
	t.Helper()
	if strings.Count(text, "@") != 1 {
		t.Fatalf("%q", text)
	}
	fails(t, strings.ReplaceAll(text, "@", "\n"), api.ErrLong, 1)
	fails(t, strings.ReplaceAll(text, "@", " ")+"\n)", api.ErrLong, 0)
	at := strings.Index(text, "@")
	fails(t, text[:at]+"\n , , "+text[at+1:], api.ErrForm, 1)
}

// exprOpeners stand, and hold, where an expression does.
func exprOpeners() []opener {
	return []opener{
		{"@(", ")"}, {"f@(", ")"}, {"f@(a, ", ")"}, {"a.b.c@(", ")"}, {"a@[", "]"}, {"a.b@[", "]"}, {"@{", "}"}, {"@{a, ", "}"}, {"@{x = ", "}"}, {"@{a, b = c, ", "}"}, {"@{x = ", ", y}"},
		{"@- ", ""}, {"@not ", ""}, {"@# ", ""}, {"@~ ", ""}, {"1 @.. ", ""}, {"1 * a @.. ", ""}, {"nil @.. 2 + ", ""}, {"a.b @.. ", ""},
	}
}

// blockOpeners stand, and hold, where a statement does.
func blockOpeners() []opener {
	return []opener{
		{"@do ", " end"}, {"while a @do ", " end"}, {"while a + b @do ", " end"}, {"for i = a, b @do ", " end"}, {"@try ", " catch e end"}, {"break @try ", " catch e f = a end break"},
		{"if a @then ", " end"}, {"if a @then ", " else end"}, {"if a @then ", " elseif b then end"}, {"local x = a @do ", " end return"},
	}
}

func TestExpressionsThatAreDeep(t *testing.T) {
	for _, o := range exprOpeners() {
		for _, ahead := range []string{"return ", "x = ", "x[1].y = ", "local x = ", "return 2 < ", "local x f() do end return "} {
			reads(t, ahead+o.around(64, "a"))
			tooDeep(t, ahead+o.around(64, o.first+"a"+o.last))
			fails(t, ahead+o.around(1000, "a"), api.ErrLong, 0)
		}
		for _, other := range exprOpeners() {
			if o.last == "" && other.last == "" && o.joins() != other.joins() {
				continue // the sign's operand ends ahead of ..
			}
			both := opener{o.first + other.first, other.last + o.last}
			reads(t, "return "+both.around(32, "a"))
			tooDeep(t, "return "+both.around(32, o.first+"a"+o.last))
			tooDeep(t, "return "+both.around(31, other.around(1, o.around(1, other.first+"a"+other.last))))
		}
	}
}

func TestBlocksThatAreDeep(t *testing.T) {
	for _, o := range blockOpeners() {
		reads(t, o.around(64, ""))
		reads(t, o.around(64, "break"))
		reads(t, o.around(64, "x = a + b"))
		tooDeep(t, o.around(64, o.first+o.last))
		fails(t, o.around(400, ""), api.ErrLong, 0)
		for _, other := range blockOpeners() {
			both := opener{o.first + other.first, other.last + o.last}
			reads(t, both.around(32, ""))
			tooDeep(t, both.around(32, other.first+other.last))
		}
		for _, other := range exprOpeners() {
			reads(t, o.around(40, "x = "+other.around(24, "a")))
			tooDeep(t, o.around(40, "x = "+other.around(24, other.first+"a"+other.last)))
			tooDeep(t, o.around(64, "x = "+other.first+"a"+other.last))
		}
	}
}

// The parenthesis of a function's parameters is one more, till it ends.
func TestFunctionsThatAreDeep(t *testing.T) {
	for _, x := range []struct{ opener, deepest string }{{"function f() ", "function f@() "}, {"local function f(a, b) ", "local function f@(a, b) "}, {"f = function(a) ", "f = function@(a) "}, {"return function() ", "return function@() "}} {
		o := opener{"@" + x.opener, " end"}
		for _, within := range []string{"", "do end", "f()", "x = (a)", "return -a", "return a .. b", "x = {}"} {
			reads(t, o.around(63, within))
		}
		tooDeep(t, o.around(63, x.deepest+"end"))
		tooDeep(t, o.around(63, "do "+strings.Replace(x.opener, "function", "@function", 1)+"end end"))
		tooDeep(t, o.around(63, "do @do end end"))
		tooDeep(t, o.around(63, "x = (@(a))"))
		tooDeep(t, o.around(32, "x = "+opener{"(", ")"}.around(32, "@function() end")))
		tooDeep(t, o.around(32, "x = "+opener{"(", ")"}.around(31, "function@() end")))
		reads(t, o.around(32, "x = "+opener{"(", ")"}.around(30, "function() do end return (a) end")))
	}
	reads(t, "return "+opener{"function() return (", ") end"}.around(32, "a"))
	tooDeep(t, "return "+opener{"function() return (", ") end"}.around(32, "@function() end"))
	reads(t, "return "+opener{"function() do return ", " end end"}.around(32, "a"))
	tooDeep(t, "return "+opener{"function() do return ", " end end"}.around(32, "@function() end"))
}

// What has ended is not open any more; 63 things are open around these.
func TestWhatEndsIsNotOpen(t *testing.T) {
	do := opener{"do ", " end"}
	for _, text := range []string{
		"do end do end do f = a end", "f() f() f(a, b)(c)(d)", "a[1][2][3] = b", "f(a)[b].c = (d)", "x = (a) + (b) * (c)", "x = {a, b = c, d}", "x = {} y = {} {}.a = {}", "x = -a - -b", "x = not a == not b", "x = -a .. b", "x = -a + f(b) - (c)", "x = (a) .. b", "x = f(a) .. b", "x = a .. b == c .. d", "x = a .. b < c .. d and e .. f or (g)",
		"while (a) do end", "while -a do f = b end", "while a .. b do end", "for i = (a), -b do end", "for i = a .. b, c .. d do end", "if (a) then end", "if a then elseif (b) then elseif -c then else end", "if a .. b then elseif c .. d then else end", "if a then else end", "try catch e end", "try f = a catch e f = b end", "try catch e end try catch e end", "return (a)", "return {a, b}", "return -a.b", "return a .. b * c + d",
	} {
		reads(t, do.around(63, text))
		reads(t, do.around(63, "break "+text))
		reads(t, do.around(30, opener{"if a then elseif b then ", " end"}.around(33, text)))
		reads(t, do.around(30, opener{"if a then f() else ", " end"}.around(33, text)))
		reads(t, do.around(30, opener{"try f() catch e ", " end"}.around(33, text)))
		reads(t, do.around(30, opener{"function f(a, b) ", " end"}.around(33, text)))
	}
	for _, text := range []string{
		"do @do end end", "f(@(a))", "f(a@[1])", "f(@{[a] = b})", "(f@())()", "a[b@[c]] = d", "a[@{}] = b", "x = -@-a", "x = -a@[b]", "x = -a@(b)", "x = -f.g@()", "x = -@(a)", "x = not @{}", "x = a .. @-b", "x = a .. b @.. c", "x = a .. b * c @.. d", "x = a .. b@[c]", "x = a .. @(b)", "x = {@{}}", "x = {a = @-b}", "x = (a @.. b)", "x = (a.b@[c])", "x = {f@()}",
		"while (@(a)) do end", "while a do f@() end", "while a do while b @do end end", "for i = a, f(@{}) do end", "for i = a, b do x = @-a end", "if (@(a)) then end", "if a then f@() end", "if a then elseif (@(b)) then end", "if a then elseif b then f@() end", "if a then elseif b then else f@() end", "if a then else f@() end", "if a then else if b @then end end", "try f@() catch e end", "try catch e f@() end", "try catch e @do end end", "try @try catch e end catch e end", "return (@-a)", "return -f@()", "function f@() end", "local function f@(a) end", "x = function@() end", "x = (@function() end)",
	} {
		tooDeep(t, do.around(63, text))
		tooDeep(t, do.around(63, "f = a "+text))
		tooDeep(t, do.around(30, opener{"if a then elseif b then ", " end"}.around(33, text)))
		tooDeep(t, do.around(30, opener{"if a then f() else ", " end"}.around(33, text)))
		tooDeep(t, do.around(30, opener{"try f() catch e ", " end"}.around(33, text)))
		tooDeep(t, do.around(30, opener{"function f(a, b) ", " end"}.around(33, text)))
	}
}

// A thing that would be one too many, where it may not stand, is of the wrong form; 64 things are open around these.
func TestWrongFormsThatAreDeep(t *testing.T) {
	for _, text := range []string{
		"@-", "@not", "@~", "@..", "@[", "@then", "@else", "f @{a}", "f @function", "f @do", "f @if", "f @not", "f @-", "f @..", "a . @(b)", "a . @{b}", "a . @function", "a @== (b)", "local @(", "local @{", "local @do", "local x @[", "local x @-", "local x @..", "local x = @do", "x = @[", "x = @..", "x = @do", "x = @then", "x = a @not", "x = a + @..", "x = a .@.", "x = a @then", "return f @{", "return f @function", "return f @not", "return f @do", "return @do", "return @..", "break @..", "break @-", "break @[", "break @then",
		"if a @do", "if a @else", "if a @{", "if @do", "while a @then", "while a @{", "while a @function", "while @do", "for @(", "for @do", "for i @(", "for i = a @do", "for i = a, @do", "for i = a, b @then", "for i = a, b @{",
	} {
		fails(t, strings.Repeat("do ", 64)+strings.ReplaceAll(text, "@", "\n"), api.ErrForm, 1)
	}
	for _, text := range []string{"@then", "@do", "@if", "@try", "@..", "@[", "@)", "@]", "a @{", "a @function", "a @not", "a @#", "a @do", "a @then", "a @try", "a + @..", "a .@.", "a . @(", "a . @{", "a @, (b)", "a @= (b)"} {
		fails(t, "x = "+strings.Repeat("(", 64)+strings.ReplaceAll(text, "@", "\n"), api.ErrForm, 1)
		fails(t, "f(a, "+strings.Repeat("b[", 63)+strings.ReplaceAll(text, "@", "\n"), api.ErrForm, 1)
	}
	for _, text := range []string{"@[", "@(", "@..", ".a.b@(", "+ b @..", "+ @-", "* @(", "or @{", "and @function() end"} {
		tooDeep(t, "x = "+strings.Repeat("(", 64)+"a "+text)
	}
}

// Nothing bounds what stands behind one another, or on the left.
func TestWhatIsLongIsNotDeep(t *testing.T) {
	for _, text := range []string{
		"return " + strings.Repeat("a + ", 8000) + "a", "return " + strings.Repeat("a or b and ", 2900) + "a", "return " + strings.Repeat("-a * ", 6000) + "a", "return " + strings.Repeat("a .. b == ", 3000) + "a", "return " + strings.Repeat("(a) - ", 5000) + "a",
		"f" + strings.Repeat("()", 16000), "a" + strings.Repeat(".b", 16000) + " = c", "a" + strings.Repeat("[b]", 10000) + " = c", "f(" + strings.Repeat("a,", 16000) + "a)", "x = {" + strings.Repeat("a,", 16000) + "a}", "x = {" + strings.Repeat("{},", 10000) + "a}", "function f(" + strings.Repeat("a,", 16000) + "a) end",
		strings.Repeat("f()", 10900), strings.Repeat("break ", 5461), strings.Repeat("do end ", 4600), strings.Repeat("local x ", 4000), "if a then " + strings.Repeat("elseif a then ", 2300) + "end", "if a then f() " + strings.Repeat("elseif (a) then f() ", 1600) + "else f() end", strings.Repeat("function f() end ", 1900), strings.Repeat("try catch e end ", 2000),
	} {
		reads(t, text)
		fails(t, text+"\n)", api.ErrForm, 1)
	}
	b := reads(t, "if a then "+strings.Repeat("elseif a then ", 2300)+"else break end")
	n := 0
	for len(b) == 1 && b[0].Kind == api.StIf {
		b = b[0].B
		n++
	}
	if n != 2301 || len(b) != 1 || b[0].Kind != api.StBreak {
		t.Error(n, tell(b))
	}
}
