package scope

import (
	"tallow/api"
)

// local is something that is declared.
type local struct {
	api.Decl
	name  string
	hides *local // what its function had under its name
}

// blocks are the locals that a function's blocks declare.
type blocks struct {
	locals []*local          // all, in the order of the walk
	full   []*local          // by their registers: those that are declared now; nil stands for what has no name
	named  map[string]*local // of these, the last one under each name
}

// during ends, behind do, what do declares.
func (b *blocks) during(do func()) {
	ahead := len(b.full)
	do()
	for last := len(b.full) - 1; last >= ahead; last-- {
		if l := b.full[last]; l != nil {
			b.named[l.name] = l.hides
		}
		b.full = b.full[:last]
	}
}

// fill fills so many registers that no name means; a declaration behind them tells whether they are too many.
func (b *blocks) fill(n int) {
	b.full = append(b.full, make([]*local, n)...)
}

// declare declares name; line is that of the statement, or of the function, that does it.
func (b *blocks) declare(name string, line int) {
	if len(b.full) >= api.MaxLocals {
		fail(api.ErrLong, line)
	}
	l := &local{Decl: api.Decl{Reg: len(b.full)}, name: name, hides: b.named[name]}
	b.locals = append(b.locals, l)
	b.full = append(b.full, l)
	b.named[name] = l
}
