package scope

import (
	"tallow/api"
)

// use is a use, and the local that it means, if that is one of its own function: whether that is boxed is known at the walk's end.
type use struct {
	api.Use
	own *local
}

type function struct {
	blocks
	around *function // nil: this is the whole
	loops  int       // how many of its loops are around what is gone through now
	uses   []use
	ups    []api.Up
	// While a function is gone through, nothing is declared or ended in those around it: a name from outside means one thing throughout.
	places map[string]int // among ups
}

func newFunction(around *function) *function {
	return &function{
		blocks: blocks{named: map[string]*local{}},
		around: around,
		places: map[string]int{},
	}
}

// addUse adds a use of name, which stands on that line.
func (f *function) addUse(name string, line int) {
	f.uses = append(f.uses, f.find(name, line))
}

// find answers what a use of name means that stands in f, or within it where f has to find it.
func (f *function) find(name string, line int) use {
	if l := f.named[name]; l != nil {
		return use{Use: api.Use{At: api.AtLocal, Index: l.Reg}, own: l}
	}
	if f.around == nil {
		return use{Use: api.Use{At: api.AtGlobal}}
	}
	place, known := f.places[name]
	if !known {
		outside := f.around.find(name, line)
		if outside.At == api.AtGlobal {
			return outside
		}
		place = f.addUp(name, outside, line)
	}
	return use{Use: api.Use{At: api.AtUp, Index: place}}
}

// addUp adds a name from outside, that is there in the function around, and answers its place.
func (f *function) addUp(name string, outside use, line int) int {
	place := len(f.ups)
	if place == api.MaxUps {
		fail(api.ErrLong, line)
	}
	if outside.own != nil {
		outside.own.Boxed = true
	}
	f.ups = append(f.ups, api.Up{Local: outside.own != nil, Index: outside.Index})
	f.places[name] = place
	return place
}

func (f *function) scope() api.Scope {
	s := api.Scope{Ups: f.ups}
	for _, u := range f.uses {
		if u.own != nil {
			u.Boxed = u.own.Boxed
		}
		s.Uses = append(s.Uses, u.Use)
	}
	for _, l := range f.locals {
		s.Decls = append(s.Decls, l.Decl)
	}
	return s
}
