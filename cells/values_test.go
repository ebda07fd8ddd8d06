package cells

import (
	"reflect"
	"slices"
	"strings"
	"testing"

	"tallow/api"
)

const (
	least = -1 << 63
	most  = 1<<63 - 1
)

func of(kind int, n int64) api.Value { return api.Value{Kind: kind, N: n} }

func null() api.Value { return of(api.KindNil, 0) }

func number(n int64) api.Value { return of(api.KindInt, n) }

func str(n int64) api.Value { return of(api.KindStr, n) }

func table(n int64) api.Value { return of(api.KindTable, n) }

func cell(n int64) api.Value { return of(api.KindCell, n) }

// kinds are the objects' kinds.
var kinds = []int{api.KindStr, api.KindTable, api.KindFunc, api.KindCo, api.KindCell}

// plain are values that may be, and are no object's.
func plain() []api.Value {
	return []api.Value{null(), of(api.KindBool, 0), of(api.KindBool, 1), number(0), number(1), number(2), number(-1), number(least), number(most), of(api.KindLib, 0), of(api.KindLib, 1), of(api.KindLib, 12)}
}

// wrong are values that may not be; some would be those of the objects 1 to 3, if they were cut to fewer bits.
func wrong() []api.Value {
	l := []api.Value{
		of(-1, 0), of(-1, 1), of(10, 0), of(10, 1), of(10, 2), of(1<<32, 0), of(1<<32+api.KindTable, 1), of(256+api.KindTable, 1), of(least, 1), of(most, 1), of(api.KindNone, 1), of(api.KindNone, -1),
		of(api.KindNil, 1), of(api.KindNil, least), of(api.KindBool, 2), of(api.KindBool, -1), of(api.KindLib, 13), of(api.KindLib, -1),
	}
	for _, kind := range kinds {
		for _, n := range []int64{0, -1, -2, 1 << 31, 1<<32 + 1, 1<<32 + 2, 1<<32 + 3, least, least + 1, least + 2, most} {
			l = append(l, of(kind, n))
		}
	}
	return l
}

// farNumbers are numbers under which no heap here has an object.
func farNumbers() []int {
	return []int{0, -1, -2, -100, least, least + 1, most, most - 1, 1<<31 - 1, 1 << 31, 1<<32 + 1, 1<<32 + 2, -1 << 31, 1 << 62}
}

// must wants a call to be answered so.
func must(t *testing.T, e, want api.Errno) {
	t.Helper()
	if e != want {
		t.Fatalf("error %d, not %d", e, want)
	}
}

// isLike wants a list to have just those numbers, and overwrites it: it is nobody else's.
func isLike(t *testing.T, what string, l []int, want ...int) {
	t.Helper()
	if !slices.Equal(l, want) {
		t.Fatalf("%s: %v, not %v", what, l, want)
	}
	for i := range l[:cap(l)] {
		l[:cap(l)][i] = -7
	}
}

// lists wants the release queue, the buffer and the finalisers' queue to be those.
func lists(t *testing.T, h *Heap, queue, buffer, fins []int) {
	t.Helper()
	for range 2 {
		isLike(t, "Queue", h.Queue(), queue...)
		isLike(t, "Buffer", h.Buffer(), buffer...)
		isLike(t, "Fins", h.Fins(), fins...)
	}
}

// state is all that can be told of a heap.
type state struct {
	graph               api.Graph
	queue, buffer, fins []int
	touched             bool
}

func stateOf(h *Heap) state {
	s := state{h.Graph(), h.Queue(), h.Buffer(), h.Fins(), h.Touched()}
	s.queue, s.buffer, s.fins = listed(s.queue), listed(s.buffer), listed(s.fins)
	for i, o := range s.graph.Objs {
		if len(o.Slots) == 0 {
			s.graph.Objs[i].Slots = nil
		}
	}
	return s
}

// listed answers l, or nil, if it is empty: both are alike.
func listed(l []int) []int {
	if len(l) == 0 {
		return nil
	}
	return l
}

// stays wants nothing to be changed by what is done, also not what a copy would become.
func stays(t *testing.T, h *Heap, what string, do func()) {
	t.Helper()
	was, before := stateOf(h), outcome(h.Copy())
	do()
	if now := stateOf(h); !reflect.DeepEqual(now, was) {
		t.Fatalf("%s: %v, and was %v", what, now, was)
	}
	if after := outcome(h.Copy()); !slices.Equal(after, before) {
		t.Fatalf("%s: what comes then is %v, and was %v", what, after, before)
	}
}

// same wants both heaps to be at the same place.
func same(t *testing.T, what string, a, b *Heap) {
	t.Helper()
	if x, y := stateOf(a), stateOf(b); !reflect.DeepEqual(x, y) {
		t.Fatalf("%s: %v, not %v", what, x, y)
	}
	if x, y := outcome(a.Copy()), outcome(b.Copy()); !slices.Equal(x, y) {
		t.Fatalf("%s: what comes then is %v, not %v", what, x, y)
	}
}

// outcome is what else comes to be seen of a heap, and uses it up: numbers and marks that it hands out next, and what waits.
func outcome(h *Heap) []int {
	var l []int
	for {
		v, mark, ok := h.NextFin()
		if !ok {
			break
		}
		l = append(l, v.Kind, int(v.N), mark)
	}
	for range 3 {
		v := h.Make(api.KindTable, "")
		l = append(l, int(v.N), h.Mark(int(v.N)))
	}
	return append(l, h.TakeBuffer()...)
}

// made answers a heap with an object of each of those kinds; a string's text is text.
func made(t *testing.T, kinds ...int) *Heap {
	t.Helper()
	h := New()
	for i, kind := range kinds {
		if v := h.Make(kind, "text"); v != of(kind, int64(i)+1) {
			t.Fatal(v)
		}
	}
	return h
}

// tables answers a heap with so many tables.
func tables(t *testing.T, n int) *Heap {
	t.Helper()
	return made(t, slices.Repeat([]int{api.KindTable}, n)...)
}

// counts wants the objects from 1 on to have just those Counts.
func counts(t *testing.T, h *Heap, want ...int) {
	t.Helper()
	var l []int
	for _, o := range h.Graph().Objs {
		l = append(l, o.Count)
	}
	isLike(t, "Counts", l, want...)
}

// slotsAre wants the object n to have just those slots.
func slotsAre(t *testing.T, h *Heap, n int, want ...api.Value) {
	t.Helper()
	if s := h.Obj(n).Slots; !slices.Equal(s, want) {
		t.Fatalf("slots of %d: %v, not %v", n, s, want)
	}
	for i, v := range want {
		if got, e := h.At(n, i); got != v || e != api.OK {
			t.Fatalf("At(%d, %d): %v, %d", n, i, got, e)
		}
	}
	for _, i := range []int{len(want), len(want) + 1, -1, least, most, 1<<32 - 1, 1 << 32} {
		if got, e := h.At(n, i); got != (api.Value{}) || e != api.ErrNone {
			t.Fatalf("At(%d, %d): %v, %d", n, i, got, e)
		}
	}
}

// long is a text of so many bytes.
func long(n int) string { return strings.Repeat("x", n) }
