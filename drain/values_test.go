package drain

import (
	"reflect"
	"slices"
	"testing"

	"tallow/api"
	"tallow/cells"
)

const (
	least = -1 << 63
	most  = 1<<63 - 1
)

func of(kind int, n int64) api.Value { return api.Value{Kind: kind, N: n} }

func null() api.Value { return of(api.KindNil, 0) }

func number(n int64) api.Value { return of(api.KindInt, n) }

func str(n int64) api.Value { return of(api.KindStr, n) }

func table(n int64) api.Value { return of(api.KindTable, n) }

// kinds are the objects' kinds; those behind the first one have slots.
var kinds = []int{api.KindStr, api.KindTable, api.KindFunc, api.KindCo, api.KindCell}

// plain are values that may be, and are no object's.
func plain() []api.Value {
	return []api.Value{null(), of(api.KindBool, 0), of(api.KindBool, 1), number(0), number(1), number(2), number(-1), number(least), number(most), of(api.KindLib, 1), of(api.KindLib, 2)}
}

// must wants all these calls to have been answered by OK.
func must(t *testing.T, errs ...api.Errno) {
	t.Helper()
	for i, e := range errs {
		if e != api.OK {
			t.Fatalf("call %d: error %d", i, e)
		}
	}
}

// made answers a heap with an object of each of those kinds, each of which is held once; a string's text is text.
func made(t *testing.T, kinds ...int) *cells.Heap {
	t.Helper()
	h := cells.New()
	for i, kind := range kinds {
		if v := h.Make(kind, "text"); v != of(kind, int64(i)+1) {
			t.Fatal(v)
		}
	}
	return h
}

// tables answers a heap with so many tables.
func tables(t *testing.T, n int) *cells.Heap {
	t.Helper()
	return made(t, slices.Repeat([]int{api.KindTable}, n)...)
}

// lists wants the release queue, the buffer and the finalisers' queue to be those.
func lists(t *testing.T, h *cells.Heap, queue, buffer, fins []int) {
	t.Helper()
	if !slices.Equal(h.Queue(), queue) || !slices.Equal(h.Buffer(), buffer) || !slices.Equal(h.Fins(), fins) {
		t.Fatalf("%v, %v, %v, not %v, %v, %v", h.Queue(), h.Buffer(), h.Fins(), queue, buffer, fins)
	}
}

// object wants the object n to be that.
func object(t *testing.T, h *cells.Heap, n int, kind, count, mark int, slots ...api.Value) {
	t.Helper()
	o := h.Obj(n)
	if o.Kind != kind || o.Count != count || o.Mark != mark || !slices.Equal(o.Slots, slots) {
		t.Fatalf("%d: %v, not of Kind %d, Count %d, Mark %d, %v", n, o, kind, count, mark, slots)
	}
}

// stepped wants a step to be done.
func stepped(t *testing.T, h *cells.Heap) {
	t.Helper()
	if !Step(h) {
		t.Fatalf("no step: %v", stateOf(h))
	}
}

// drained wants Drain to do so many steps.
func drained(t *testing.T, h *cells.Heap, n, want int) {
	t.Helper()
	if did := Drain(h, n); did != want {
		t.Fatalf("Drain(%d) = %d, not %d: %v", n, did, want, stateOf(h))
	}
}

// over wants the queue to be empty, and no step to be done any more.
func over(t *testing.T, h *cells.Heap) {
	t.Helper()
	stays(t, h, func() {
		if len(h.Queue()) != 0 || Step(h) {
			t.Fatal("a step behind the last one")
		}
		for _, n := range []int{least, -1, 0, 1, 2, most} {
			drained(t, h, n, 0)
		}
	})
}

// state is all that can be told of a heap.
type state struct {
	objs                []api.Obj
	queue, buffer, fins []int
	touched             bool
}

func stateOf(h *cells.Heap) state {
	return state{h.Graph().Objs, h.Queue(), h.Buffer(), h.Fins(), h.Touched()}.tidy()
}

// tidy answers s with lists that are nil, where they are empty, and no free numbers at the end.
func (s state) tidy() state {
	s.objs = slices.Clone(s.objs)
	for len(s.objs) > 0 && s.objs[len(s.objs)-1].Kind == 0 {
		s.objs = s.objs[:len(s.objs)-1]
	}
	for i := range s.objs {
		s.objs[i].Slots = listed(s.objs[i].Slots)
	}
	s.objs = listed(s.objs)
	s.queue, s.buffer, s.fins = listed(s.queue), listed(s.buffer), listed(s.fins)
	return s
}

// listed answers a copy of l, or nil, if it is empty: both are alike.
func listed[T any](l []T) []T {
	if len(l) == 0 {
		return nil
	}
	return slices.Clone(l)
}

// stays wants nothing to be changed by what is done.
func stays(t *testing.T, h *cells.Heap, do func()) {
	t.Helper()
	was := stateOf(h)
	do()
	if now := stateOf(h); !reflect.DeepEqual(now, was) {
		t.Fatalf("%v, and was %v", now, was)
	}
}

// same wants both heaps to be alike.
func same(t *testing.T, a, b *cells.Heap) {
	t.Helper()
	if x, y := stateOf(a), stateOf(b); !reflect.DeepEqual(x, y) {
		t.Fatalf("%v, not %v", x, y)
	}
}
