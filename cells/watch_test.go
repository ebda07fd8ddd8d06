package cells

import (
	"testing"

	"tallow/api"
)

// P13.7

// touching are all sorts of calls, and whom each touches: the one that is told, 1 or 4, or nobody (0). In touchedHeap's.
var touching = []struct {
	name string
	whom int
	do   func(h *Heap)
}{
	{"nothing", 0, func(h *Heap) {}},
	{"Keep", 1, func(h *Heap) { h.Keep(table(1)) }},
	{"Keep of a string", 2, func(h *Heap) { h.Keep(str(2)) }},
	{"Drop", 1, func(h *Heap) { h.Drop(table(1)) }},
	{"Drop to 0", 2, func(h *Heap) { h.Drop(str(2)) }},
	{"Push", 1, func(h *Heap) { h.Push(1, null()) }},
	{"Push of another one", 1, func(h *Heap) { h.Push(1, table(4)) }},
	{"Push into another one", 4, func(h *Heap) { h.Push(4, table(1)) }},
	{"Pop", 1, func(h *Heap) { h.Pop(1) }},
	{"Pop of another one", 4, func(h *Heap) { h.Pop(4) }},
	{"Swap", 1, func(h *Heap) { h.Swap(1, 0, number(3)) }},
	{"Swap of the same", 1, func(h *Heap) { h.Swap(1, 0, number(1)) }},
	{"Swap in another one", 4, func(h *Heap) { h.Swap(4, 0, str(2)) }},
	{"Lay", 1, func(h *Heap) { h.Lay(1, []api.Value{table(4)}) }},
	{"Lay of nothing", 1, func(h *Heap) { h.Lay(1, nil) }},
	{"Lay of the same", 1, func(h *Heap) { h.Lay(1, h.Obj(1).Slots) }},
	{"Lay of nothing where nothing is", 5, func(h *Heap) { h.Lay(5, nil) }},
	{"Free", 3, func(h *Heap) { h.Free(3) }},
	{"Mark", 1, func(h *Heap) { h.Mark(1) }},
	{"Mark of a string", 2, func(h *Heap) { h.Mark(2) }},
	{"Fin", 4, func(h *Heap) { h.Fin(4) }},

	{"Keep of none", 0, func(h *Heap) { h.Keep(cell(1)) }},
	{"Keep at 0", 0, func(h *Heap) { h.Keep(table(3)) }},
	{"Keep of no object's", 0, func(h *Heap) { h.Keep(number(1)) }},
	{"Drop of none", 0, func(h *Heap) { h.Drop(cell(1)) }},
	{"Drop at 0", 0, func(h *Heap) { h.Drop(table(3)) }},
	{"Drop of no object's", 0, func(h *Heap) { h.Drop(number(1)) }},
	{"Push of what is not there", 0, func(h *Heap) { h.Push(1, cell(1)) }},
	{"Push into a string", 0, func(h *Heap) { h.Push(2, null()) }},
	{"Pop of no slots", 0, func(h *Heap) { h.Pop(5) }},
	{"Swap of no slot", 0, func(h *Heap) { h.Swap(1, 1, null()) }},
	{"Swap of what is not there", 0, func(h *Heap) { h.Swap(1, 0, cell(1)) }},
	{"Lay of what is not there", 0, func(h *Heap) { h.Lay(1, []api.Value{null(), cell(1)}) }},
	{"Free of one that is held", 0, func(h *Heap) { h.Free(1) }},
	{"Mark again", 0, func(h *Heap) { h.Mark(4) }},
	{"Fin of none that is marked", 0, func(h *Heap) { h.Fin(1) }},
	{"Suspect of a string", 0, func(h *Heap) { h.Suspect(2) }},

	{"Make", 0, func(h *Heap) { h.Make(api.KindTable, "") }},
	{"At", 0, func(h *Heap) { h.At(1, 0) }},
	{"Obj", 0, func(h *Heap) { h.Obj(1) }},
	{"Graph", 0, func(h *Heap) { h.Graph() }},
	{"Copy", 0, func(h *Heap) { h.Copy() }},
	{"Touched", 0, func(h *Heap) { h.Touched() }},
	{"Suspect", 0, func(h *Heap) { h.Suspect(5) }},
	{"TakeBuffer", 0, func(h *Heap) { h.TakeBuffer() }},
	{"NextFin", 0, func(h *Heap) { h.NextFin() }},
	{"Fins, Queue, Buffer", 0, func(h *Heap) { h.Fins(); h.Queue(); h.Buffer() }},
}

// touchedHeap answers a heap: 1 a table with a slot, held twice; 2 a string; 3 a table that waits to be freed; 4 a table with a slot, marked; 5 a table, suspected; 6 a table whose finaliser waits.
func touchedHeap(t *testing.T) *Heap {
	t.Helper()
	h := made(t, api.KindTable, api.KindStr, api.KindTable, api.KindTable, api.KindTable, api.KindTable)
	must(t, h.Keep(table(1)), api.OK)
	must(t, h.Push(1, number(1)), api.OK)
	must(t, h.Drop(table(3)), api.OK)
	must(t, h.Push(4, table(1)), api.OK)
	marks(t, h, 1, 4, 6)
	must(t, h.Keep(table(5)), api.OK)
	must(t, h.Drop(table(5)), api.OK)
	must(t, h.Fin(6), api.OK)
	return h
}

// Each alone is watched, and all but each, and all.
func TestTouched(t *testing.T) {
	for _, x := range touching {
		for n := -1; n <= 9; n++ {
			var others []int
			for m := -1; m <= 9; m++ {
				if m != n {
					others = append(others, m)
				}
			}
			for i, l := range [][]int{{n}, others, append(others, n)} {
				h := touchedHeap(t)
				h.Watch(l)
				if h.Touched() {
					t.Fatalf("%v is touched at first", l)
				}
				x.do(h)
				want := x.whom != 0 && [...]bool{x.whom == n, x.whom != n, true}[i]
				if h.Touched() != want || h.Touched() != want {
					t.Errorf("%s, of %v: %t", x.name, l, !want)
				}
			}
		}
	}
}

// At first, and where none is watched any more, nothing is touched.
func TestNothingIsWatched(t *testing.T) {
	for _, x := range touching {
		h := touchedHeap(t)
		x.do(h)
		if h.Touched() {
			t.Errorf("%s, at first", x.name)
		}
		for _, l := range [][]int{nil, {}, farNumbers(), {7, 7}} {
			h = touchedHeap(t)
			h.Watch([]int{1, 2, 3, 4, 5})
			h.Watch(l)
			x.do(h)
			if h.Touched() {
				t.Errorf("%s, of %v", x.name, l)
			}
		}
	}
}

// What was touched stays so, till others are watched, or the same.
func TestWatchAgain(t *testing.T) {
	h := tables(t, 5)
	touches := func(want bool, objs ...int) {
		t.Helper()
		for _, n := range objs {
			must(t, h.Keep(table(int64(n))), api.OK)
			must(t, h.Drop(table(int64(n))), api.OK)
		}
		if h.Touched() != want {
			t.Fatalf("%v: %t", objs, !want)
		}
	}
	touches(false, 1, 2, 3, 4, 5)
	h.Watch([]int{2, 4})
	touches(false, 1, 3, 5)
	touches(true, 4)
	touches(true, 1)
	h.Watch([]int{2, 4})
	touches(false, 1, 3, 5)
	touches(true, 2)
	// more behind those
	h.Watch([]int{2, 4, 1, 4})
	touches(false, 3, 5)
	touches(true, 1)
	h.Watch([]int{2, 4, 1, 4, 5})
	touches(false, 3)
	touches(true, 5)
	// fewer of them
	h.Watch([]int{2, 4, 1})
	touches(false, 3, 5)
	touches(true, 2)
	// as many, but others
	h.Watch([]int{2, 3, 1})
	touches(false, 4, 5)
	touches(true, 3)
	// more, that begin otherwise
	h.Watch([]int{5, 3, 1, 4})
	touches(false, 2)
	touches(true, 4)
	h.Watch(nil)
	touches(false, 1, 2, 3, 4, 5)
	h.Watch([]int{5})
	touches(false, 1, 2, 3, 4)
	touches(true, 5)
}

// The list that is handed in is not kept, and stays as it is, with the room behind its end.
func TestWatchKeepsNothing(t *testing.T) {
	h := tables(t, 4)
	room := []int{1, 2, 3, 4}
	h.Watch(room[:1])
	h.Watch(room[:2])
	room[1] = 4
	must(t, h.Keep(table(4)), api.OK)
	if h.Touched() {
		t.Error("4 is not watched")
	}
	must(t, h.Keep(table(2)), api.OK)
	if !h.Touched() {
		t.Error("2 is watched")
	}
	for n, want := range map[int64]bool{1: true, 2: false, 3: true, 4: true} {
		h.Watch(room[:3])
		must(t, h.Keep(table(n)), api.OK)
		if h.Touched() != want {
			t.Error(n)
		}
	}
	if room[0] != 1 || room[1] != 4 || room[2] != 3 || room[3] != 4 {
		t.Error(room)
	}
}

// Objects that come to be under a number that is watched are watched too; that they come to be does not touch them.
func TestWatchWhatComes(t *testing.T) {
	h := tables(t, 1)
	h.Watch([]int{3})
	h.Make(api.KindTable, "")
	h.Make(api.KindTable, "")
	must(t, h.Keep(table(2)), api.OK)
	if h.Touched() {
		t.Error("touched at once")
	}
	must(t, h.Keep(table(3)), api.OK)
	if !h.Touched() {
		t.Error("not touched")
	}
	must(t, h.Drop(table(1)), api.OK)
	must(t, h.Free(1), api.OK)
	h.Watch([]int{1})
	if h.Make(api.KindCell, "") != cell(1) || h.Touched() {
		t.Error("touched at once, again")
	}
	must(t, h.Push(1, null()), api.OK)
	if !h.Touched() {
		t.Error("not touched, again")
	}
}
