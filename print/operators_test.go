package print

import (
	"strings"
	"testing"

	"tallow/api"
	"tallow/parse"
)

// P6.1: parentheses

func inParens(text string, so bool) string {
	if so {
		return "(" + text + ")"
	}
	return text
}

// Each of two operators within the other: where it takes its operands so anyway, there are no parentheses.
func TestOperatorsWithinOperators(t *testing.T) {
	for i, outers := range levels() {
		for j, inners := range levels() {
			for _, outer := range outers {
				for _, inner := range inners {
					fromRight := outer == ".."
					left := inParens("a "+inner+" b", j < i || j == i && fromRight)
					right := inParens("b "+inner+" c", j < i || j == i && !fromRight)
					printsExpr(t, left+" "+outer+" c", binOf(binOf(a(), inner, b()), outer, c()))
					printsExpr(t, "a "+outer+" "+right, binOf(a(), outer, binOf(b(), inner, c())))
					printsExpr(t, left+" "+outer+" "+right, binOf(binOf(a(), inner, b()), outer, binOf(b(), inner, c())))
				}
			}
		}
	}
}

func TestSignsAhead(t *testing.T) {
	for _, sign := range ahead() {
		for _, other := range ahead() {
			printsExpr(t, sign+" "+other+" a", unOf(sign, unOf(other, a())))
			printsExpr(t, sign+" "+other+" "+sign+" a", unOf(sign, unOf(other, unOf(sign, a()))))
		}
		for _, o := range operators() {
			printsExpr(t, sign+" (a "+o+" b)", unOf(sign, binOf(a(), o, b())))
			printsExpr(t, "- "+sign+" (a "+o+" b)", unOf("-", unOf(sign, binOf(a(), o, b()))))
			printsExpr(t, sign+" a "+o+" b", binOf(unOf(sign, a()), o, b()))
			printsExpr(t, "a "+o+" "+sign+" b", binOf(a(), o, unOf(sign, b())))
			printsExpr(t, "("+sign+" a "+o+" b).x", indexOf(binOf(unOf(sign, a()), o, b()), strOf("x")))
			printsExpr(t, sign+" (a "+o+" b)[1] "+o+" c", binOf(unOf(sign, indexOf(binOf(a(), o, b()), intOf(1))), o, c()))
		}
		for text, e := range eachKind() {
			if e.Kind != api.ExBin {
				printsExpr(t, sign+" "+text, unOf(sign, e))
			}
		}
	}
}

// What is no ExBin needs no parentheses beside an operator.
func TestOperandsOfEachKind(t *testing.T) {
	for text, e := range eachKind() {
		for _, o := range operators() {
			if e.Kind != api.ExBin {
				printsExpr(t, text+" "+o+" "+text, binOf(e, o, e))
			}
		}
	}
}

func TestOperatorsInARow(t *testing.T) {
	for source, want := range map[string]string{
		"a + b - c + 1":                        "a + b - c + 1",
		"((a + b) - c) + 1":                    "a + b - c + 1",
		"a + (b - (c + 1))":                    "a + (b - (c + 1))",
		"a .. b .. c .. 1":                     "a .. b .. c .. 1",
		"a .. (b .. (c .. 1))":                 "a .. b .. c .. 1",
		"((a .. b) .. c) .. 1":                 "((a .. b) .. c) .. 1",
		"(a .. b) .. (c .. 1)":                 "(a .. b) .. c .. 1",
		"(a + b) .. (c + 1)":                   "a + b .. c + 1",
		"(a << b) .. (c << 1)":                 "(a << b) .. (c << 1)",
		"(a .. b) << (c .. 1)":                 "a .. b << c .. 1",
		"a << b >> c << (1 >> 2)":              "a << b >> c << (1 >> 2)",
		"a * b // c % (1 * 2)":                 "a * b // c % (1 * 2)",
		"a or b and c == 1 | 2 ~ 3 & 4 << 5":   "a or b and c == 1 | 2 ~ 3 & 4 << 5",
		"((((a or b) and c) == 1) | 2) ~ 3":    "((((a or b) and c) == 1) | 2) ~ 3",
		"a or (b or c)":                        "a or (b or c)",
		"a and b or c and d":                   "a and b or c and d",
		"a and (b or c) and d":                 "a and (b or c) and d",
		"a < b == c":                           "a < b == c",
		"a < (b == c)":                         "a < (b == c)",
		"not a == b":                           "not a == b",
		"not (a == b)":                         "not (a == b)",
		"(not a) == b":                         "not a == b",
		"-(-(-a))":                             "- - - a",
		"#(#a .. b)":                           "# (# a .. b)",
		"~a ~ ~b":                              "~ a ~ ~ b",
		"(((a)))":                              "a",
		"((a)(b))[((c))]":                      "a(b)[c]",
		"(-a).b":                               "(- a).b",
		"-a.b":                                 "- a.b",
		"-(a.b)":                               "- a.b",
		"(function() end)()":                   "(function()\nend)()",
		"function() end()":                     "(function()\nend)()",
		"{[(a)] = (b), (c), [(\"k\")] = (-1)}": "{[a] = b, c, k = - 1}",
	} {
		writes(t, "return "+source, "return "+want+"\n")
	}
}

// parens answers where the parentheses of a text, whose strings have none, open and close.
func parens(text string) [][2]int {
	var open []int
	var all [][2]int
	for at, r := range text {
		switch r {
		case '(':
			open = append(open, at)
		case ')':
			all = append(all, [2]int{open[len(open)-1], at})
			open = open[:len(open)-1]
		}
	}
	return all
}

// without puts blanks where parentheses are.
func without(text string, at [2]int) string {
	bytes := []byte(text)
	bytes[at[0]], bytes[at[1]] = ' ', ' '
	return string(bytes)
}

// noneToSpare wants that each parenthesis of a text makes it another one, but for those that the chapter asks around a function.
func noneToSpare(t *testing.T, text string) {
	t.Helper()
	read, err := parse.Parse(text)
	if err != nil {
		t.Errorf("Parse(%.1000q): %v", text, err)
	}
	for _, at := range parens(text) {
		if strings.HasPrefix(text[at[0]:], "(function") {
			continue
		}
		less, err := parse.Parse(without(text, at))
		if err == nil && tell(less) == tell(read) {
			t.Errorf("%.1000q: the parentheses at %d are to spare", text, at[0])
		}
	}
}

func TestNoParenthesesToSpare(t *testing.T) {
	noneToSpare(t, "return (a or b) and c(d)\n")
	for _, o := range operators() {
		for _, p := range operators() {
			for _, q := range operators() {
				for _, e := range []*api.Expr{
					binOf(binOf(binOf(a(), o, b()), p, c()), q, a()),
					binOf(binOf(a(), o, binOf(b(), p, c())), q, a()),
					binOf(binOf(a(), o, b()), p, binOf(c(), q, a())),
					binOf(a(), o, binOf(binOf(b(), p, c()), q, a())),
					binOf(a(), o, binOf(b(), p, binOf(c(), q, a()))),
				} {
					text, e := Print(blockOf(returnOf(e)))
					if e != api.OK {
						t.Errorf("%s %s %s: %d", o, p, q, e)
					}
					noneToSpare(t, text)
				}
			}
		}
	}
}

// All that parts words is one blank, or a line feed behind a statement and where a block begins.
func TestBlanks(t *testing.T) {
	writes(t, "a=1\n\n--x\n\tb  =  2 f ( a , b ) . c [ d ] = not # e", "a = 1\nb = 2\nf(a, b).c[d] = not # e\n")
	writes(t, "for i=1,2 do end try f()catch e g()end return{1,x=2,[3]=4}", "for i = 1, 2 do\nend\ntry\nf()\ncatch e\ng()\nend\nreturn {1, x = 2, [3] = 4}\n")
	writes(t, "local x local y=1 local function f(a,b)end while x do break end", "local x\nlocal y = 1\nlocal function f(a, b)\nend\nwhile x do\nbreak\nend\n")
}
