package print

import (
	"tallow/api"
)

func (w *writer) stmts(b []*api.Stmt) {
	for _, s := range b {
		w.stmt(s)
		w.put("\n")
	}
}

// block writes what stands behind the word that opens a block, up to the one that ends it.
func (w *writer) block(b []*api.Stmt) {
	w.put("\n")
	w.stmts(b)
}

func (w *writer) stmt(s *api.Stmt) {
	// What is no statement is told as that, even where it would be one too many.
	if s == nil || s.Kind < api.StLocal || s.Kind > api.StFunc {
		panic(api.ErrArg)
	}
	w.begin()
	switch s.Kind {
	case api.StLocal:
		w.put("local ", s.Name)
		w.value(" = ", s.R)
	case api.StSet:
		w.expr(s.L)
		w.put(" = ")
		w.expr(s.R)
	case api.StCall:
		w.expr(s.R)
	case api.StReturn:
		w.put("return")
		w.value(" ", s.R)
	case api.StBreak:
		w.put("break")
	case api.StFunc:
		w.namedFunction(s)
	default:
		w.blocks(s)
		w.put("end")
	}
}

// value writes what may be left out, and what stands ahead of it.
func (w *writer) value(ahead string, e *api.Expr) {
	if e != nil {
		w.put(ahead)
		w.expr(e)
	}
}

// blocks writes a statement of blocks, but for its end.
func (w *writer) blocks(s *api.Stmt) {
	switch s.Kind {
	case api.StDo:
		w.put("do")
		w.block(s.A)
	case api.StWhile:
		w.put("while ")
		w.expr(s.R)
		w.put(" do")
		w.block(s.A)
	case api.StIf:
		w.put("if")
		w.choice(s)
	case api.StFor:
		w.put("for ", s.Name, " = ")
		w.expr(s.R)
		w.put(", ")
		w.expr(s.To)
		w.put(" do")
		w.block(s.A)
	case api.StTry:
		w.put("try")
		w.block(s.A)
		w.put("catch ", s.Name)
		w.block(s.B)
	}
}

// choice writes what stands behind an if, or an elseif.
func (w *writer) choice(s *api.Stmt) {
	w.put(" ")
	w.expr(s.R)
	w.put(" then")
	w.block(s.A)
	switch {
	case len(s.B) == 0:
	case len(s.B) == 1 && s.B[0] != nil && s.B[0].Kind == api.StIf:
		w.begin()
		w.put("elseif")
		w.choice(s.B[0])
	default:
		w.put("else")
		w.block(s.B)
	}
}

// namedFunction writes a local function. The function's place in the text is behind its name, so that this one is looked at first.
func (w *writer) namedFunction(s *api.Stmt) {
	w.put("local function ", s.Name)
	if !isOf(s.R, api.ExFunc) {
		panic(api.ErrArg)
	}
	w.begin()
	w.body(s.R)
}
