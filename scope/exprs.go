package scope

import (
	"slices"

	"tallow/api"
)

// expr goes through an expression that must be there, and of one of those kinds, if some are told; the line is that of what is around it.
func (w *walk) expr(e *api.Expr, around int, kinds ...int) {
	if e == nil {
		fail(api.ErrForm, around)
	}
	w.begin(e.Line)
	if len(kinds) > 0 && !slices.Contains(kinds, e.Kind) {
		fail(api.ErrForm, e.Line)
	}
	switch e.Kind {
	case api.ExNil, api.ExTrue, api.ExFalse, api.ExInt, api.ExStr:
	case api.ExName:
		w.addUse(e.Text, e.Line)
	case api.ExIndex, api.ExBin:
		w.expr(e.L, e.Line)
		w.expr(e.R, e.Line)
	case api.ExCall:
		w.expr(e.L, e.Line)
		for _, arg := range e.Args {
			w.expr(arg, e.Line)
		}
	case api.ExFunc:
		w.inner(e)
	case api.ExUn:
		w.expr(e.R, e.Line)
	case api.ExTable:
		w.items(e)
	default:
		fail(api.ErrForm, e.Line)
	}
}

// value goes through an expression that may be left out.
func (w *walk) value(e *api.Expr, around int) {
	if e != nil {
		w.expr(e, around)
	}
}

// items goes through what stands in a table.
func (w *walk) items(table *api.Expr) {
	if len(table.Keys) != len(table.Args) {
		fail(api.ErrForm, table.Line)
	}
	for i, e := range table.Args {
		w.value(table.Keys[i], table.Line)
		w.expr(e, table.Line)
	}
}

// inner goes through a function that stands in the one that is gone through now.
func (w *walk) inner(e *api.Expr) {
	if len(w.functions) == api.MaxProtos || len(e.Params) > api.MaxParams {
		fail(api.ErrLong, e.Line)
	}
	for i, name := range e.Params {
		if slices.Contains(e.Params[:i], name) {
			fail(api.ErrTwice, e.Line)
		}
	}
	w.inFunction(func() {
		for _, name := range e.Params {
			w.declare(name, e.Line)
		}
		w.stmts(e.Body, e.Line)
	})
}
