package parse

import (
	"tallow/api"
)

const (
	weakest = 1 // of all operators
	join    = ".."
)

// strengths has how strong the operators between two operands are; 0 is none's.
func strengths() map[string]int {
	return map[string]int{
		"or":  weakest,
		"and": 2,
		"<":   3, "<=": 3, ">": 3, ">=": 3, "==": 3, "~=": 3,
		"|":  4,
		"~":  5,
		"&":  6,
		"<<": 7, ">>": 7,
		join: 8,
		"+":  9, "-": 9,
		"*": 10, "//": 10, "%": 10,
	}
}

func (p *parser) expr() *api.Expr { return p.operation(weakest) }

// operation answers an expression whose operators outside parentheses are not weaker than least.
func (p *parser) operation(least int) *api.Expr {
	e := p.operand()
next:
	if p.strengths[p.sign()] >= least {
		e = p.behind(e)
		goto next
	}
	return e
}

// behind answers the operation whose left operand is there, and whose operator comes next.
func (p *parser) behind(left *api.Expr) *api.Expr {
	e := &api.Expr{Kind: api.ExBin, Line: p.line(), Text: p.sign(), L: left}
	strength := p.strengths[e.Text]
	if e.Text == join {
		defer p.begin(join)()
		// Its own strength, not more: the next .. belongs to the right operand.
		e.R = p.operation(strength)
		return e
	}
	p.want(e.Text)
	e.R = p.operation(strength + 1)
	return e
}

func (p *parser) operand() *api.Expr {
	switch p.sign() {
	case "not", "-", "#", "~":
		e := &api.Expr{Kind: api.ExUn, Line: p.line(), Text: p.sign()}
		defer p.begin(e.Text)()
		e.R = p.operand()
		return e
	default:
		e, _ := p.postExpr()
		return e
	}
}

// postExpr answers a post, and whether it stands in parentheses of its own, of which nothing is left in it.
func (p *parser) postExpr() (e *api.Expr, enclosed bool) {
	enclosed = p.sign() == "("
	e = p.primary()
	for {
		line := p.line()
		switch p.sign() {
		case "[":
			e = &api.Expr{Kind: api.ExIndex, Line: line, L: e, R: p.enclosed("[", "]")}
		case ".":
			p.take()
			e = &api.Expr{Kind: api.ExIndex, Line: line, L: e, R: p.named(api.ExStr)}
		case "(":
			e = &api.Expr{Kind: api.ExCall, Line: line, L: e, Args: p.args()}
		default:
			return e, enclosed
		}
		enclosed = false
	}
}

func (p *parser) args() []*api.Expr {
	var args []*api.Expr
	p.list("(", ")", func() { args = append(args, p.expr()) })
	return args
}

func (p *parser) primary() *api.Expr {
	switch p.sign() {
	case "(":
		return p.enclosed("(", ")")
	case "function":
		return p.function()
	case "{":
		return p.table()
	default:
		return p.word()
	}
}

// word answers the expression that a word alone is.
func (p *parser) word() *api.Expr {
	token := p.rest[0]
	e := &api.Expr{Line: token.Line}
	switch token.Kind {
	case api.TokName:
		e.Kind, e.Text = api.ExName, token.Text
	case api.TokInt:
		e.Kind, e.N = api.ExInt, token.N
	case api.TokStr:
		e.Kind, e.Text = api.ExStr, token.Text
	default:
		e.Kind = p.constant()
	}
	p.take()
	return e
}

func (p *parser) constant() int {
	switch p.sign() {
	case "nil":
		return api.ExNil
	case "true":
		return api.ExTrue
	case "false":
		return api.ExFalse
	default:
		panic(p.fault(api.ErrForm))
	}
}

// named answers the expression of that kind whose text is the name that comes next.
func (p *parser) named(kind int) *api.Expr {
	line := p.line()
	return &api.Expr{Kind: kind, Line: line, Text: p.name()}
}

func (p *parser) function() *api.Expr {
	line := p.line()
	defer p.begin("function")()
	return p.body(line)
}

// namedFunction answers the name of a function that has one, and the function.
func (p *parser) namedFunction() (name, f *api.Expr) {
	line := p.line()
	defer p.begin("function")()
	name = p.named(api.ExName)
	return name, p.body(line)
}

// body answers the function whose first word, and name, are taken.
func (p *parser) body(line int) *api.Expr {
	f := &api.Expr{Kind: api.ExFunc, Line: line}
	p.list("(", ")", func() { f.Params = append(f.Params, p.name()) })
	f.Body = p.stmts()
	p.want("end")
	return f
}

func (p *parser) table() *api.Expr {
	t := &api.Expr{Kind: api.ExTable, Line: p.line()}
	p.list("{", "}", func() {
		key, item := p.item()
		t.Keys, t.Args = append(t.Keys, key), append(t.Args, item)
	})
	return t
}

// item answers what stands in a table, and its key, if it has one.
func (p *parser) item() (key, item *api.Expr) {
	switch {
	case p.sign() == "[":
		key = p.enclosed("[", "]")
		p.want("=")
	case p.rest[0].Kind == api.TokName && p.rest[1].Kind == api.TokSign && p.rest[1].Text == "=":
		key = p.named(api.ExStr)
		p.want("=")
	}
	return key, p.expr()
}
