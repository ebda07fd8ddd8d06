package print

import (
	"strings"
	"testing"

	"tallow/api"
	"tallow/parse"
)

// P6.1: how many parts, and how many bytes

// onTheLeft answers operations, each on the left of another one, and innermost the leaf: n parts up to that, and no bytes ahead of it.
func onTheLeft(n int, leaf, right *api.Expr) *api.Expr {
	e := leaf
	for range n - 1 {
		e = binOf(e, "+", right)
	}
	return e
}

// A return, 65534 operations, and a leaf are as many as may be.
func TestManyParts(t *testing.T) {
	none := &api.Expr{}
	refuses(t, api.ErrArg, returnOf(onTheLeft(65535, a(), nil)))
	refuses(t, api.ErrLong, returnOf(onTheLeft(65536, a(), nil)))
	refuses(t, api.ErrArg, returnOf(onTheLeft(65535, a(), none)))
	refuses(t, api.ErrLong, returnOf(onTheLeft(65535, a(), b())))
	refuses(t, api.ErrLong, breakOf(), returnOf(onTheLeft(65535, a(), nil)))
	refuses(t, api.ErrArg, breakOf(), returnOf(onTheLeft(65534, a(), nil)))
	refuses(t, api.ErrLong, returnOf(onTheLeft(200000, a(), b())))
	// What is there and is none is told as that, where it is one too many, too; what is not there is not counted.
	refuses(t, api.ErrArg, returnOf(onTheLeft(65536, none, b())))
	refuses(t, api.ErrArg, returnOf(onTheLeft(65536, nil, b())))
	refuses(t, api.ErrArg, returnOf(onTheLeft(65536, &api.Expr{Kind: api.ExTable, Keys: []*api.Expr{nil}}, b())))
	refuses(t, api.ErrLong, returnOf(onTheLeft(65537, none, b())))
	refuses(t, api.ErrLong, returnOf(onTheLeft(65537, nil, b())))
}

// Behind parts of each kind stand a return and operations, so many that a leaf is the last part that may be, or one too many. What is not there stands behind that leaf.
func TestEachPartCounts(t *testing.T) {
	operations := []*api.Expr{nil, a()}
	for n := 2; n <= 65536; n++ {
		operations = append(operations, binOf(operations[n-1], "+", nil))
	}
	for _, x := range []struct {
		parts int
		ahead []*api.Stmt
	}{
		{1, blockOf(breakOf())}, {1, blockOf(localOf("x", nil))}, {1, blockOf(returnOf(nil))}, {1, blockOf(doOf())}, {1, blockOf(tryOf("e", nil, nil))}, {2, blockOf(localOf("x", a()))}, {2, blockOf(whileOf(a()))}, {2, blockOf(ifOf(a(), nil, nil))}, {2, blockOf(statementOf(a()))}, {2, blockOf(localFunctionOf("f", funcOf(nil)))},
		{3, blockOf(setOf(a(), b()))}, {3, blockOf(forOf("i", a(), b()))}, {3, blockOf(doOf(breakOf(), breakOf()))}, {4, blockOf(ifOf(a(), nil, blockOf(ifOf(b(), nil, nil))))}, {4, blockOf(ifOf(a(), nil, blockOf(breakOf(), breakOf())))}, {4, blockOf(ifOf(a(), blockOf(breakOf()), blockOf(breakOf())))}, {3, blockOf(tryOf("e", blockOf(breakOf()), blockOf(breakOf())))},
		{2, blockOf(returnOf(nilOf()))}, {2, blockOf(returnOf(intOf(1)))}, {2, blockOf(returnOf(strOf("s")))}, {4, blockOf(returnOf(indexOf(a(), strOf("x"))))}, {4, blockOf(returnOf(indexOf(a(), strOf("end"))))}, {4, blockOf(returnOf(indexOf(a(), b())))}, {3, blockOf(returnOf(callOf(a())))}, {5, blockOf(returnOf(callOf(a(), b(), c())))},
		{3, blockOf(returnOf(funcOf([]string{"p", "q"}, breakOf())))}, {4, blockOf(localFunctionOf("f", funcOf([]string{"p"}, breakOf(), breakOf())))}, {3, blockOf(returnOf(unOf("-", a())))}, {4, blockOf(returnOf(binOf(a(), "+", b())))}, {2, blockOf(returnOf(tableOf()))}, {3, blockOf(returnOf(tableOf(nil, a())))}, {4, blockOf(returnOf(tableOf(strOf("x"), a())))}, {4, blockOf(returnOf(tableOf(b(), a())))}, {6, blockOf(returnOf(tableOf(b(), a(), nil, a(), nil, a())))},
	} {
		refuses(t, api.ErrArg, append(x.ahead, returnOf(operations[65535-x.parts]))...)
		refuses(t, api.ErrLong, append(x.ahead, returnOf(operations[65536-x.parts]))...)
	}
}

// Names of no bytes: a tree of 65536 parts has a text, that is read as nothing.
func TestPartsWithoutBytes(t *testing.T) {
	refuses(t, api.ErrArg, namesOnly("", 32768)...)
	refuses(t, api.ErrLong, namesOnly("", 32769)...)
	refuses(t, api.ErrLong, append(namesOnly("", 32767), statementOf(unOf("", nameOf(""))))...)
	refuses(t, api.ErrArg, append(namesOnly("", 32766), statementOf(unOf("", nameOf(""))))...)
	refuses(t, api.ErrArg, append(namesOnly("", 32768), nil)...)
}

func namesOnly(name string, n int) []*api.Stmt {
	var l []*api.Stmt
	for range n {
		l = append(l, statementOf(nameOf(name)))
	}
	return l
}

// A part counts as often as one comes to it.
func TestPartsThatAreShared(t *testing.T) {
	doubled := func(times int) *api.Expr {
		e := nilOf()
		for range times {
			e = callOf(e, e)
		}
		return e
	}
	prints(t, "return nil(nil)(nil(nil))\n", returnOf(doubled(2)))
	if text, e := Print(blockOf(returnOf(doubled(5)))); e != api.OK || strings.Count(text, "nil") != 32 {
		t.Errorf("%q, %d", text, e)
	}
	for _, times := range []int{13, 16, 40, 1000} {
		refuses(t, api.ErrLong, returnOf(doubled(times)))
		refuses(t, api.ErrArg, nil, returnOf(doubled(times)))
	}
	s := doOf()
	for range 40 {
		s = doOf(s, s)
	}
	refuses(t, api.ErrLong, s)
}

// filler answers statements whose text has n bytes, that are 6 or more.
func filler(n int) []*api.Stmt {
	var l []*api.Stmt
	for ; n >= 12; n -= len("break\n") {
		l = append(l, breakOf())
	}
	return append(l, setOf(a(), nameOf(strings.Repeat("x", n-len("a = \n")))))
}

func TestManyBytes(t *testing.T) {
	for _, n := range []int{6, 7, 11, 12, 13, 1000, 32767, 32768} {
		text, e := Print(filler(n))
		if len(text) != n || e != api.OK {
			t.Errorf("%d bytes of %d, %d", len(text), n, e)
		}
	}
	for _, n := range []int{32769, 32770, 40000, 100000} {
		refuses(t, api.ErrLong, filler(n)...)
	}
	for _, s := range eachStatement() {
		endsAtTheLimit(t, s)
	}
	for _, e := range eachKind() {
		endsAtTheLimit(t, setOf(a(), e))
		endsAtTheLimit(t, localFunctionOf("f", funcOf([]string{"p"}, returnOf(e))))
		endsAtTheLimit(t, statementOf(callOf(nameOf("f"), e)))
		endsAtTheLimit(t, returnOf(indexOf(e, e)))
		endsAtTheLimit(t, returnOf(unOf("#", tableOf(nil, e, e, a(), strOf("x"), e))))
	}
}

// endsAtTheLimit wants that a statement may end at the limit, but not behind it; what stands behind it is looked at only in the first case.
func endsAtTheLimit(t *testing.T, s *api.Stmt) {
	t.Helper()
	text, e := Print(blockOf(s))
	if e != api.OK {
		t.Errorf("Print(%s): %d", tell(blockOf(s)), e)
	}
	whole, e := Print(append(filler(32768-len(text)), s))
	if e != api.OK || len(whole) != 32768 || !strings.HasSuffix(whole, "\n"+text) {
		t.Errorf("%q, %d", text, e)
	}
	refuses(t, api.ErrLong, append(filler(32769-len(text)), s)...)
	refuses(t, api.ErrArg, append(filler(32768-len(text)), s, nil)...)
	refuses(t, api.ErrLong, append(filler(32769-len(text)), s, nil)...)
}

// What is not there is found where the text has come to it: just behind these bytes.
func TestWhereTheTextHasCome(t *testing.T) {
	for _, x := range []struct {
		ahead string
		s     *api.Stmt
	}{
		{"", nil}, {"", setOf(nil, nil)}, {"a = ", setOf(a(), nil)}, {"", statementOf(nil)}, {"do\n", doOf(nil)}, {"do\nbreak\n", doOf(breakOf(), nil)}, {"while ", whileOf(nil)}, {"while a do\n", whileOf(a(), nil)}, {"if ", ifOf(nil, nil, nil)}, {"if a then\n", ifOf(a(), blockOf(nil), nil)},
		{"if a then\nelse\n", ifOf(a(), nil, blockOf(nil))}, {"if a then\nelse\nbreak\n", ifOf(a(), nil, blockOf(breakOf(), nil))}, {"if a then\nelseif ", ifOf(a(), nil, blockOf(ifOf(nil, nil, nil)))}, {"if a then\nelseif b then\n", ifOf(a(), nil, blockOf(ifOf(b(), blockOf(nil), nil)))}, {"if a then\nelseif b then\nelse\n", ifOf(a(), nil, blockOf(ifOf(b(), nil, blockOf(nil))))}, {"if a then\nelse\nif b then\nend\n", ifOf(a(), nil, blockOf(ifOf(b(), nil, nil), nil))},
		{"for i = ", forOf("i", nil, nil)}, {"for i = a, ", forOf("i", a(), nil)}, {"for i = a, b do\n", forOf("i", a(), b(), nil)}, {"try\n", tryOf("e", blockOf(nil), nil)}, {"try\ncatch e\n", tryOf("e", nil, blockOf(nil))}, {"local function f", localFunctionOf("f", nil)}, {"local function f", localFunctionOf("f", a())}, {"local function f(p, q)\n", localFunctionOf("f", funcOf([]string{"p", "q"}, nil))},
		{"local x = ", localOf("x", &api.Expr{})}, {"return ", returnOf(&api.Expr{})}, {"return ", returnOf(indexOf(nil, b()))}, {"return a[", returnOf(indexOf(a(), nil))}, {"return a.x[", returnOf(indexOf(indexOf(a(), strOf("x")), nil))}, {"return a[", returnOf(indexOf(a(), binOf(nil, "+", a())))}, {"return a[\"end\"][", returnOf(indexOf(indexOf(a(), strOf("end")), nil))}, {"return ", returnOf(callOf(nil, nil))}, {"return a(", returnOf(callOf(a(), nil))}, {"return a(b, ", returnOf(callOf(a(), b(), nil))}, {"return (", returnOf(callOf(binOf(nil, "+", b())))}, {"return (- a)(", returnOf(callOf(unOf("-", a()), nil))}, {"return (function()\n", returnOf(callOf(funcOf(nil, nil)))},
		{"return function()\n", returnOf(funcOf(nil, nil))}, {"return function(p)\nbreak\n", returnOf(funcOf([]string{"p"}, breakOf(), nil))}, {"return not ", returnOf(unOf("not", nil))}, {"return - (", returnOf(unOf("-", binOf(nil, "+", a())))}, {"return ", returnOf(binOf(nil, "+", nil))}, {"return a + ", returnOf(binOf(a(), "+", nil))}, {"return a + (", returnOf(binOf(a(), "+", binOf(nil, "+", a())))}, {"return a .. ", returnOf(binOf(a(), "..", binOf(nil, "..", a())))}, {"return (", returnOf(binOf(binOf(nil, "or", b()), "and", c()))}, {"return (a or b) and ", returnOf(binOf(binOf(a(), "or", b()), "and", nil))},
		{"return ", returnOf(&api.Expr{Kind: api.ExTable, Keys: []*api.Expr{nil}})}, {"return {", returnOf(tableOf(nil, nil))}, {"return {a, ", returnOf(tableOf(nil, a(), nil, nil))}, {"return {x = ", returnOf(tableOf(strOf("x"), nil))}, {"return {[\"end\"] = ", returnOf(tableOf(strOf("end"), nil))}, {"return {[", returnOf(tableOf(&api.Expr{}, nil))}, {"return {[a] = ", returnOf(tableOf(a(), nil))},
	} {
		refuses(t, api.ErrArg, append(filler(32768-len(x.ahead)), x.s)...)
		refuses(t, api.ErrLong, append(filler(32769-len(x.ahead)), x.s)...)
	}
}

// Texts that no quoted text could be.
func TestTextsThatAreHuge(t *testing.T) {
	huge := strings.Repeat("x", 1<<24)
	for _, text := range []string{huge, strings.Repeat("\x00", 10000), strings.Repeat("\n", 20000), huge[:32766], huge[:32767], huge[:32768], huge[:32769]} {
		refuses(t, api.ErrLong, returnOf(strOf(text)))
		refuses(t, api.ErrLong, returnOf(strOf(text)), nil)
		refuses(t, api.ErrLong, returnOf(indexOf(a(), strOf(text))), nil)
		refuses(t, api.ErrLong, returnOf(tableOf(strOf(text), a())), nil)
	}
	refuses(t, api.ErrArg, returnOf(strOf(strings.Repeat("\x00", 8188))), nil)
	for _, s := range []*api.Stmt{localOf(huge, nil), setOf(nameOf(huge), a()), forOf(huge, a(), b()), tryOf(huge, nil, nil), localFunctionOf(huge, funcOf(nil)), returnOf(funcOf([]string{huge})), returnOf(unOf(huge, a())), returnOf(binOf(a(), huge, b()))} {
		refuses(t, api.ErrLong, s, nil)
	}
	refuses(t, api.ErrLong, returnOf(funcOf(make([]string, 20000))), nil)
	refuses(t, api.ErrArg, returnOf(callOf(a(), make([]*api.Expr, 1<<20)...)), tooLong())
}

// P6.1: how deep

// opener makes a tree that is one deeper, or so many.
type opener struct {
	deeper int
	around func(s *api.Stmt) *api.Stmt
}

func openers() map[string]opener {
	// An expression holds a statement in a function's body, which is one deeper by itself.
	return map[string]opener{
		"do":       {1, func(s *api.Stmt) *api.Stmt { return doOf(s) }},
		"while":    {1, func(s *api.Stmt) *api.Stmt { return whileOf(a(), s) }},
		"for":      {1, func(s *api.Stmt) *api.Stmt { return forOf("i", a(), b(), s) }},
		"then":     {1, func(s *api.Stmt) *api.Stmt { return ifOf(a(), blockOf(s), nil) }},
		"else":     {1, func(s *api.Stmt) *api.Stmt { return ifOf(a(), nil, blockOf(breakOf(), s)) }},
		"elseif":   {1, func(s *api.Stmt) *api.Stmt { return ifOf(a(), nil, blockOf(ifOf(b(), blockOf(s), nil))) }},
		"try":      {1, func(s *api.Stmt) *api.Stmt { return tryOf("e", blockOf(s), nil) }},
		"catch":    {1, func(s *api.Stmt) *api.Stmt { return tryOf("e", nil, blockOf(s)) }},
		"local":    {1, func(s *api.Stmt) *api.Stmt { return localFunctionOf("f", funcOf(nil, s)) }},
		"function": {1, func(s *api.Stmt) *api.Stmt { return returnOf(funcOf(nil, s)) }},
		"(":        {2, func(s *api.Stmt) *api.Stmt { return statementOf(callOf(a(), funcOf(nil, s))) }},
		"post":     {2, func(s *api.Stmt) *api.Stmt { return statementOf(callOf(funcOf(nil, s))) }},
		"operand":  {3, func(s *api.Stmt) *api.Stmt { return returnOf(unOf("-", binOf(a(), "+", funcOf(nil, s)))) }},
		"[":        {2, func(s *api.Stmt) *api.Stmt { return setOf(indexOf(a(), funcOf(nil, s)), b()) }},
		"{":        {2, func(s *api.Stmt) *api.Stmt { return returnOf(tableOf(nil, funcOf(nil, s))) }},
		"key":      {3, func(s *api.Stmt) *api.Stmt { return returnOf(tableOf(funcOf(nil, s), a())) }},
		"sign":     {2, func(s *api.Stmt) *api.Stmt { return returnOf(unOf("not", funcOf(nil, s))) }},
		"..":       {2, func(s *api.Stmt) *api.Stmt { return returnOf(binOf(a(), "..", funcOf(nil, s))) }},
		"left":     {1, func(s *api.Stmt) *api.Stmt { return returnOf(binOf(funcOf(nil, s), "..", a())) }},
	}
}

// Innermost stands a do, so that a function's parenthesis is never what is too deep.
func TestHowDeep(t *testing.T) {
	for name, o := range openers() {
		s, deep := doOf(setOf(a(), b())), 1
		for ; deep+o.deeper <= 64; deep += o.deeper {
			s = o.around(s)
		}
		for ; deep < 64; deep++ {
			s = doOf(s)
		}
		text, e := Print(blockOf(s))
		if e != api.OK {
			t.Errorf("%s: %d", name, e)
		}
		if read, err := parse.Parse(text); err != nil || tell(read) != tell(blockOf(s)) {
			t.Errorf("%s: %.300q is not read back", name, text)
		}
		refuses(t, api.ErrLong, doOf(s))
		refuses(t, api.ErrLong, breakOf(), doOf(s))
		refuses(t, api.ErrLong, o.around(s))
	}
}

func TestHowDeepExpressionsAre(t *testing.T) {
	for sign, around := range map[string]func(e *api.Expr) *api.Expr{
		"-":  func(e *api.Expr) *api.Expr { return unOf("-", e) },
		"..": func(e *api.Expr) *api.Expr { return binOf(a(), "..", e) },
		"(":  func(e *api.Expr) *api.Expr { return callOf(a(), e) },
		"[":  func(e *api.Expr) *api.Expr { return indexOf(a(), e) },
		"{":  func(e *api.Expr) *api.Expr { return tableOf(nil, e) },
		"or": func(e *api.Expr) *api.Expr { return binOf(a(), "or", e) },
	} {
		e := c()
		for range 64 {
			e = around(e)
		}
		prints(t, strings.Repeat("break\n", 2)+"local x = "+textOfExpr(t, e)+"\n", breakOf(), breakOf(), localOf("x", e))
		if sign != "or" {
			refuses(t, api.ErrLong, returnOf(around(e)))
		} else {
			// The first one's right operand stands in no parentheses.
			printsExpr(t, textOfExpr(t, around(e)), around(e))
			refuses(t, api.ErrLong, returnOf(around(around(e))))
		}
	}
	f := funcOf(nil)
	for range 62 {
		f = funcOf(nil, returnOf(f))
	}
	textOfExpr(t, f)
	refuses(t, api.ErrLong, returnOf(funcOf(nil, returnOf(f))))
}

// textOfExpr answers the text of an expression that has one.
func textOfExpr(t *testing.T, e *api.Expr) string {
	t.Helper()
	text, wrong := Print(blockOf(returnOf(e)))
	if wrong != api.OK {
		t.Errorf("%.300s: %d", tell(blockOf(returnOf(e))), wrong)
	}
	return strings.TrimSuffix(strings.TrimPrefix(text, "return "), "\n")
}

// What is long is not deep.
func TestLongTexts(t *testing.T) {
	printsExpr(t, strings.Repeat("a + ", 8000)+"a", onTheLeft(8001, a(), a()))
	post, s := nameOf("a"), ifOf(b(), nil, nil)
	for range 8000 {
		post = callOf(indexOf(post, strOf("b")))
	}
	printsExpr(t, "a"+strings.Repeat(".b()", 8000), post)
	for range 2000 {
		s = ifOf(a(), nil, blockOf(s))
	}
	prints(t, "if a then\n"+strings.Repeat("elseif a then\n", 1999)+"elseif b then\nend\n", s)
	prints(t, strings.Repeat("a()\n", 8192), calls(8192)...)
	refuses(t, api.ErrLong, calls(8193)...)
}

func calls(n int) []*api.Stmt {
	var l []*api.Stmt
	for range n {
		l = append(l, statementOf(callOf(a())))
	}
	return l
}
