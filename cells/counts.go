package cells

import (
	"tallow/api"
	"tallow/val"
)

// Keep makes the Count of v's object one more.
func (h *Heap) Keep(v api.Value) api.Errno {
	o, e := h.held(v)
	if o == nil {
		return e
	}
	o.Count++
	h.own.watch.touch(int(v.N))
	return api.OK
}

// Drop makes the Count of v's object one less: it is to be released then, or it is suspected.
func (h *Heap) Drop(v api.Value) api.Errno {
	o, e := h.held(v)
	if o == nil {
		return e
	}
	n := int(v.N)
	o.Count--
	h.own.watch.touch(n)
	switch {
	case o.Count == 0:
		put(h.own.queue, n)
		cut(h.own.buffer, n)
	case o.Kind != api.KindStr:
		put(h.own.buffer, n)
	}
	return api.OK
}

// Queue answers the numbers in the release queue, in order.
func (h *Heap) Queue() []int {
	if !h.made() {
		return nil
	}
	return h.own.queue.all()
}

// Buffer answers the numbers in the buffer, in order.
func (h *Heap) Buffer() []int {
	if !h.made() {
		return nil
	}
	return h.own.buffer.all()
}

// TakeBuffer empties the buffer, and answers the numbers that were in it, in order.
func (h *Heap) TakeBuffer() []int {
	l := h.Buffer()
	if len(l) > 0 {
		h.own.buffer = newList[int]()
	}
	return l
}

// Suspect puts the object n behind the buffer.
func (h *Heap) Suspect(n int) api.Errno {
	if !h.made() {
		return api.ErrNil
	}
	o := h.object(n)
	if o == nil || o.Kind == api.KindStr || o.Count == 0 || h.own.buffer.has(n) {
		return api.ErrArg
	}
	put(h.own.buffer, n)
	return api.OK
}

// Mark marks the object n, if it never was, and answers its Mark.
func (h *Heap) Mark(n int) int {
	o := h.object(n)
	if o == nil || o.Mark != 0 {
		return 0
	}
	h.own.marks++
	o.Mark = h.own.marks
	h.own.watch.touch(n)
	return o.Mark
}

// Fin puts the object n, which is marked, behind the finalisers' queue, which holds it from then on.
func (h *Heap) Fin(n int) api.Errno {
	if !h.made() {
		return api.ErrNil
	}
	o := h.object(n)
	if o == nil || o.Mark <= 0 {
		return api.ErrArg
	}
	put(h.own.fins, o.value(n))
	cut(h.own.queue, n)
	o.Count++
	o.due, o.Mark = o.Mark, -1
	h.own.watch.touch(n)
	return api.OK
}

// NextFin takes the first object out of the finalisers' queue, and answers its value, which its caller holds, and the Mark that it had.
func (h *Heap) NextFin() (api.Value, int, bool) {
	if !h.made() {
		return api.Value{}, 0, false
	}
	v := h.own.fins.first()
	o := h.own.of(v)
	if o == nil {
		return api.Value{}, 0, false
	}
	cut(h.own.fins, v)
	return v, o.due, true
}

// Fins answers the numbers in the finalisers' queue, in order.
func (h *Heap) Fins() []int {
	if !h.made() {
		return nil
	}
	return val.Refs(h.own.fins.all())
}
