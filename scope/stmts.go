package scope

import (
	"tallow/api"
)

// stmts goes through statements; the line is that of what is around them.
func (w *walk) stmts(b []*api.Stmt, around int) {
	for _, s := range b {
		w.stmt(s, around)
	}
}

func (w *walk) stmt(s *api.Stmt, around int) {
	if s == nil {
		fail(api.ErrForm, around)
	}
	w.begin(s.Line)
	switch s.Kind {
	case api.StLocal:
		w.value(s.R, s.Line)
		w.declare(s.Name, s.Line)
	case api.StSet:
		w.expr(s.L, s.Line, api.ExName, api.ExIndex)
		w.expr(s.R, s.Line)
	case api.StCall:
		w.expr(s.R, s.Line, api.ExCall)
	case api.StReturn:
		w.value(s.R, s.Line)
	case api.StBreak:
		if w.loops == 0 {
			fail(api.ErrBreak, s.Line)
		}
	case api.StFunc:
		w.declare(s.Name, s.Line)
		w.expr(s.R, s.Line, api.ExFunc)
	default:
		w.compound(s)
	}
}

// compound goes through a statement that has blocks.
func (w *walk) compound(s *api.Stmt) {
	switch s.Kind {
	case api.StDo:
		w.block(s.A, s.Line)
	case api.StWhile:
		w.expr(s.R, s.Line)
		w.loop(s.A, s.Line)
	case api.StIf:
		w.expr(s.R, s.Line)
		w.block(s.A, s.Line)
		w.block(s.B, s.Line)
	case api.StFor:
		w.expr(s.R, s.Line)
		w.expr(s.To, s.Line)
		w.during(func() {
			w.fill(2)
			w.declare(s.Name, s.Line)
			w.loop(s.A, s.Line)
		})
	case api.StTry:
		w.block(s.A, s.Line)
		w.during(func() {
			w.declare(s.Name, s.Line)
			w.block(s.B, s.Line)
		})
	default:
		fail(api.ErrForm, s.Line)
	}
}

func (w *walk) block(b []*api.Stmt, around int) {
	w.during(func() { w.stmts(b, around) })
}

func (w *walk) loop(b []*api.Stmt, around int) {
	w.loops++
	w.block(b, around)
	w.loops--
}
