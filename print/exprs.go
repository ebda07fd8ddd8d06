package print

import (
	"slices"

	"tallow/api"
	"tallow/lex"
	"tallow/num"
	"tallow/quote"
)

// join is the operator that takes its operands from the right on.
const join = ".."

// Above the strengths of operators are those of an ExUn, and of whatever is neither that nor an ExBin.
const (
	signed = 11
	whole  = 12
)

func (w *writer) expr(e *api.Expr) {
	if e == nil || e.Kind < api.ExNil || e.Kind > api.ExTable || e.Kind == api.ExTable && len(e.Keys) != len(e.Args) {
		panic(api.ErrArg)
	}
	w.begin()
	switch e.Kind {
	case api.ExNil:
		w.put("nil")
	case api.ExTrue:
		w.put("true")
	case api.ExFalse:
		w.put("false")
	case api.ExInt:
		w.put(num.Text(e.N))
	case api.ExStr:
		w.quoted(e.Text)
	case api.ExName:
		w.put(e.Text)
	case api.ExIndex:
		w.post(e.L)
		w.index(e.R)
	case api.ExCall:
		w.post(e.L)
		w.list("(", ")", len(e.Args), func(i int) { w.expr(e.Args[i]) })
	case api.ExFunc:
		w.put("function")
		w.body(e)
	case api.ExUn:
		w.put(e.Text, " ")
		w.operand(e.R, isOf(e.R, api.ExBin))
	case api.ExBin:
		w.operation(e)
	case api.ExTable:
		w.list("{", "}", len(e.Args), func(i int) { w.item(e.Keys[i], e.Args[i]) })
	}
}

// operand writes an expression, in parentheses if it needs them.
func (w *writer) operand(e *api.Expr, needs bool) {
	if !needs {
		w.expr(e)
		return
	}
	w.enclosed("(", ")", func() { w.expr(e) })
}

// post writes what is indexed or called.
func (w *writer) post(e *api.Expr) { w.operand(e, isOf(e, api.ExUn, api.ExBin, api.ExFunc)) }

func (w *writer) operation(e *api.Expr) {
	own, left, right := strength(e), strength(e.L), strength(e.R)
	fromRight := e.Text == join
	w.operand(e.L, left < own || left == own && fromRight)
	w.put(" ", e.Text, " ")
	w.operand(e.R, right < own || right == own && !fromRight)
}

func (w *writer) index(e *api.Expr) {
	if isNamed(e) {
		w.begin()
		w.put(".", e.Text)
		return
	}
	w.enclosed("[", "]", func() { w.expr(e) })
}

// item writes what stands in a table, and its key, if it has one.
func (w *writer) item(key, e *api.Expr) {
	switch {
	case key == nil:
	case isNamed(key):
		w.begin()
		w.put(key.Text, " = ")
	default:
		w.enclosed("[", "]", func() { w.expr(key) })
		w.put(" = ")
	}
	w.expr(e)
}

// body writes what stands behind a function's first word, and its name.
func (w *writer) body(f *api.Expr) {
	w.list("(", ")", len(f.Params), func(i int) { w.put(f.Params[i]) })
	w.block(f.Body)
	w.put("end")
}

func (w *writer) quoted(text string) {
	// Its quoted text is longer still, up to four times: it need not be made for that.
	if len(text) > api.MaxText {
		panic(api.ErrLong)
	}
	w.put(quote.Quote(text))
}

func isOf(e *api.Expr, kinds ...int) bool { return e != nil && slices.Contains(kinds, e.Kind) }

// isNamed tells whether e is the string of a name that is not reserved.
func isNamed(e *api.Expr) bool {
	if !isOf(e, api.ExStr) {
		return false
	}
	tokens, err := lex.Tokens(e.Text)
	// What stands beside the name, be it a blank, is seen in the text alone.
	return err == nil && tokens[0].Kind == api.TokName && tokens[0].Text == e.Text
}

// strength tells how strong an expression is.
func strength(e *api.Expr) int {
	switch {
	case isOf(e, api.ExBin):
		return operator(e.Text)
	case isOf(e, api.ExUn):
		return signed
	default:
		return whole
	}
}

// operator tells how strong an operator between two operands is; one that is none is the weakest.
func operator(sign string) int {
	switch sign {
	case "or":
		return 1
	case "and":
		return 2
	case "<", "<=", ">", ">=", "==", "~=":
		return 3
	case "|":
		return 4
	case "~":
		return 5
	case "&":
		return 6
	case "<<", ">>":
		return 7
	case join:
		return 8
	case "+", "-":
		return 9
	case "*", "//", "%":
		return 10
	default:
		return 0
	}
}
