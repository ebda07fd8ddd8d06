package cells

import (
	"slices"

	"tallow/api"
)

// Push puts v into a new slot of the object n, behind its others.
func (h *Heap) Push(n int, v api.Value) api.Errno {
	o, e := h.open(n, v)
	if e != api.OK {
		return e
	}
	o.Slots = append(o.Slots, v)
	h.own.watch.touch(n)
	return api.OK
}

// Lay gives the object n these slots.
func (h *Heap) Lay(n int, s []api.Value) api.Errno {
	o, e := h.open(n, s...)
	if e != api.OK {
		return e
	}
	o.Slots = slices.Clone(s)
	h.own.watch.touch(n)
	return api.OK
}

// Pop takes the last slot of the object n away, and answers what was in it.
func (h *Heap) Pop(n int) (api.Value, api.Errno) {
	last := len(h.slots(n)) - 1
	v, e := h.At(n, last)
	if e != api.OK {
		return api.Value{}, e
	}
	o := h.object(n)
	o.Slots = o.Slots[:last]
	h.own.watch.touch(n)
	return v, api.OK
}

// At answers what is in the slot i of the object n.
func (h *Heap) At(n, i int) (api.Value, api.Errno) {
	if !h.made() {
		return api.Value{}, api.ErrNil
	}
	s := h.slots(n)
	if i < 0 || i >= len(s) {
		return api.Value{}, api.ErrNone
	}
	return s[i], api.OK
}

// Swap puts v into the slot i of the object n, and answers what was in it.
func (h *Heap) Swap(n, i int, v api.Value) (api.Value, api.Errno) {
	was, e := h.At(n, i)
	if e == api.OK && !h.own.there(v) {
		e = api.ErrArg
	}
	if e != api.OK {
		return api.Value{}, e
	}
	h.slots(n)[i] = v
	h.own.watch.touch(n)
	return was, api.OK
}

// slots answers the slots of the object n, themselves.
func (h *Heap) slots(n int) []api.Value {
	o := h.object(n)
	if o == nil {
		return nil
	}
	return o.Slots
}

// open answers the object n, if those may come into its slots.
func (h *Heap) open(n int, with ...api.Value) (*object, api.Errno) {
	if !h.made() {
		return nil, api.ErrNil
	}
	o := h.object(n)
	if o == nil {
		return nil, api.ErrNone
	}
	if o.Kind == api.KindStr || !h.own.allThere(with) {
		return nil, api.ErrArg
	}
	return o, api.OK
}
