package cells

import (
	"slices"

	"tallow/api"
	"tallow/pool"
	"tallow/val"
)

// heap is what a Heap has. It is this one that embeds the pool of the objects' numbers: were it the Heap, whoever has that could take numbers, or give them back, past the objects.
type heap struct {
	*pool.Pool
	objs   map[int]*object
	queue  *list[int] // the release queue
	buffer *list[int]
	fins   *list[api.Value] // the finalisers' queue
	marks  int              // the greatest Mark that was given
	watch  *watch
}

// object is an object, and the Mark that it had when it was put behind the finalisers' queue.
type object struct {
	api.Obj
	due int
}

func (o *object) value(n int) api.Value { return api.Value{Kind: o.Kind, N: int64(n)} }

func (o *object) copied() *object {
	c := *o
	c.Slots = slices.Clone(o.Slots)
	return &c
}

// of answers the object whose value v is; nil, if there is none of its Kind.
func (h *heap) of(v api.Value) *object {
	if o := h.objs[int(v.N)]; o != nil && o.Kind == v.Kind {
		return o
	}
	return nil
}

// there tells whether v is something that a slot may hold.
func (h *heap) there(v api.Value) bool {
	if val.Ref(v) {
		return h.of(v) != nil
	}
	return val.May(v) && v.Kind != api.KindNone
}

func (h *heap) allThere(s []api.Value) bool {
	return !slices.ContainsFunc(s, func(v api.Value) bool { return !h.there(v) })
}

func (h *heap) copied() *heap {
	c := *h
	c.Pool = h.Pool.Copy()
	c.objs = make(map[int]*object, len(h.objs))
	for n, o := range h.objs {
		c.objs[n] = o.copied()
	}
	c.queue, c.buffer, c.fins = h.queue.copied(), h.buffer.copied(), h.fins.copied()
	c.watch = h.watch.copied()
	return &c
}
