package cells

import (
	"testing"

	"tallow/api"
)

// Heaps that are none: R3.
func TestNoHeap(t *testing.T) {
	h := touchedHeap(t)
	h.Watch([]int{1, 2, 3, 4, 5})
	copied := *h
	for name, x := range map[string]*Heap{"nil": nil, "new": new(Heap), "copied as a struct": &copied} {
		stays(t, h, name, func() {
			for _, n := range append(farNumbers(), 1, 2, 3, 4, 5, 6, 7) {
				answersErrNil(t, x, n)
				answersNothing(t, x, n)
			}
		})
	}
}

func answersErrNil(t *testing.T, h *Heap, n int) {
	t.Helper()
	for _, v := range append(notThere(), table(int64(n)), str(int64(n)), null()) {
		must(t, h.Keep(v), api.ErrNil)
		must(t, h.Drop(v), api.ErrNil)
		must(t, h.Push(n, v), api.ErrNil)
		must(t, h.Lay(n, []api.Value{v}), api.ErrNil)
		was, e := h.Swap(n, 0, v)
		must(t, e, api.ErrNil)
		if was != (api.Value{}) {
			t.Fatal(was)
		}
	}
	must(t, h.Lay(n, nil), api.ErrNil)
	must(t, h.Free(n), api.ErrNil)
	must(t, h.Fin(n), api.ErrNil)
	must(t, h.Suspect(n), api.ErrNil)
	popped, e := h.Pop(n)
	must(t, e, api.ErrNil)
	at, e := h.At(n, 0)
	must(t, e, api.ErrNil)
	if popped != (api.Value{}) || at != (api.Value{}) {
		t.Fatal(popped, at)
	}
}

func answersNothing(t *testing.T, h *Heap, n int) {
	t.Helper()
	h.Watch([]int{n})
	if h.Touched() || h.Copy() != nil || h.Mark(n) != 0 || len(h.Queue())+len(h.Buffer())+len(h.TakeBuffer())+len(h.Fins())+len(h.Graph().Objs) != 0 {
		t.Fatal(n)
	}
	for _, kind := range append(kinds, n) {
		if v := h.Make(kind, "x"); v != (api.Value{}) {
			t.Fatal(v)
		}
	}
	if o := h.Obj(n); o.Kind != 0 || o.Count != 0 || len(o.Slots) != 0 || o.Text != "" || o.Mark != 0 {
		t.Fatal(o)
	}
	if v, mark, ok := h.NextFin(); v != (api.Value{}) || mark != 0 || ok {
		t.Fatal(v, mark, ok)
	}
}
