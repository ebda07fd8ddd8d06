package print

import (
	"slices"

	"tallow/api"
)

// Same tells whether a and b are alike but for their lines.
func Same(a, b []*api.Stmt) bool {
	var p pairs
	return p.ofStmts(a, b)
}

// pairs goes through two trees side by side, as long as they are alike: what it has counted is in both of them.
type pairs struct{ parts int }

func (p *pairs) ofStmts(a, b []*api.Stmt) bool { return slices.EqualFunc(a, b, p.ofStmt) }

func (p *pairs) ofExprs(a, b []*api.Expr) bool { return slices.EqualFunc(a, b, p.ofExpr) }

func (p *pairs) ofStmt(a, b *api.Stmt) bool {
	if a == nil || b == nil {
		return a == b
	}
	return p.count() && a.Kind == b.Kind && a.Name == b.Name &&
		p.ofExpr(a.L, b.L) && p.ofExpr(a.R, b.R) && p.ofExpr(a.To, b.To) &&
		p.ofStmts(a.A, b.A) && p.ofStmts(a.B, b.B)
}

func (p *pairs) ofExpr(a, b *api.Expr) bool {
	if a == nil || b == nil {
		return a == b
	}
	return p.count() && a.Kind == b.Kind && a.N == b.N && a.Text == b.Text &&
		p.ofExpr(a.L, b.L) && p.ofExpr(a.R, b.R) &&
		p.ofExprs(a.Keys, b.Keys) && p.ofExprs(a.Args, b.Args) &&
		slices.Equal(a.Params, b.Params) && p.ofStmts(a.Body, b.Body)
}

// count counts one more part; it tells false of one too many, and so ends what would go on for ever.
func (p *pairs) count() bool {
	p.parts++
	return p.parts <= api.MaxParts
}
