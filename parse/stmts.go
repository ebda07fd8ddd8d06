package parse

import (
	"tallow/api"
)

// block answers a block that opens with that word.
func (p *parser) block(word string) []*api.Stmt {
	defer p.begin(word)()
	return p.stmts()
}

// stmts answers a block's statements. Which word ends it is for those to say who ask for them: they so find what stands behind a return, too.
func (p *parser) stmts() []*api.Stmt {
	var block []*api.Stmt
	for !p.blockEnds() {
		s := p.stmt()
		block = append(block, s)
		if s.Kind == api.StReturn {
			break
		}
	}
	return block
}

// blockEnds tells whether what comes next ends a block of some kind; none of it begins a statement, or an expression.
func (p *parser) blockEnds() bool {
	switch p.sign() {
	case "end", "else", "elseif", "catch":
		return true
	default:
		return p.rest[0].Kind == api.TokEnd
	}
}

func (p *parser) stmt() *api.Stmt {
	s := &api.Stmt{Line: p.line()}
	switch p.sign() {
	case "local":
		p.local(s)
	case "do":
		s.Kind, s.A = api.StDo, p.block("do")
		p.want("end")
	case "while":
		p.while(s)
	case "for":
		p.count(s)
	case "if":
		p.choice(s)
	case "return":
		p.result(s)
	case "break":
		p.want("break")
		s.Kind = api.StBreak
	case "try":
		p.try(s)
	case "function":
		if p.rest[1].Kind == api.TokName {
			s.Kind = api.StSet
			s.L, s.R = p.namedFunction()
			break
		}
		// A function without a name is a post's beginning, as it is in an expression.
		p.post(s)
	default:
		p.post(s)
	}
	return s
}

func (p *parser) local(s *api.Stmt) {
	p.want("local")
	if p.sign() == "function" {
		name, f := p.namedFunction()
		s.Kind, s.Name, s.R = api.StFunc, name.Text, f
		return
	}
	s.Kind, s.Name = api.StLocal, p.name()
	if p.sign() == "=" {
		p.take()
		s.R = p.expr()
	}
}

func (p *parser) while(s *api.Stmt) {
	p.want("while")
	s.Kind, s.R = api.StWhile, p.expr()
	s.A = p.block("do")
	p.want("end")
}

func (p *parser) count(s *api.Stmt) {
	p.want("for")
	s.Kind, s.Name = api.StFor, p.name()
	p.want("=")
	s.R = p.expr()
	p.want(",")
	s.To = p.expr()
	s.A = p.block("do")
	p.want("end")
}

// choice goes on with a loop, not with itself, where elseif stands: that opens nothing, so that nothing bounds how many there are.
func (p *parser) choice(s *api.Stmt) {
	p.condition(s, "if")
	for p.sign() == "elseif" {
		rest := &api.Stmt{Line: p.line()}
		p.condition(rest, "elseif")
		s.B = []*api.Stmt{rest}
		s = rest
	}
	if p.sign() == "else" {
		s.B = p.block("else")
	}
	p.want("end")
}

func (p *parser) condition(s *api.Stmt, word string) {
	p.want(word)
	s.Kind, s.R = api.StIf, p.expr()
	s.A = p.block("then")
}

func (p *parser) result(s *api.Stmt) {
	p.want("return")
	s.Kind = api.StReturn
	if !p.blockEnds() {
		s.R = p.expr()
	}
}

func (p *parser) try(s *api.Stmt) {
	s.Kind, s.A = api.StTry, p.block("try")
	defer p.begin("catch")()
	s.Name = p.name()
	s.B = p.stmts()
	p.want("end")
}

// post takes a statement that begins with a post.
func (p *parser) post(s *api.Stmt) {
	post, enclosed := p.postExpr()
	switch {
	case enclosed:
		panic(p.fault(api.ErrForm))
	case post.Kind == api.ExCall:
		s.Kind, s.R = api.StCall, post
	case post.Kind == api.ExName, post.Kind == api.ExIndex:
		p.want("=")
		s.Kind, s.L, s.R = api.StSet, post, p.expr()
	default:
		panic(p.fault(api.ErrForm))
	}
}
