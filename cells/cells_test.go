package cells

import (
	"slices"
	"testing"

	"tallow/api"
)

// The chapter's examples, row by row.
func TestExamples(t *testing.T) {
	h := New()
	if h.Make(api.KindTable, "x") != table(1) || h.Make(api.KindStr, "x") != str(2) || h.Make(api.KindInt, "") != (api.Value{}) || h.Obj(1).Text != "" || h.Obj(2).Text != "x" {
		t.Fatal(h.Graph())
	}
	must(t, h.Push(1, str(2)), api.OK)
	must(t, h.Keep(str(2)), api.OK)
	must(t, h.Drop(str(2)), api.OK)
	must(t, h.Drop(str(2)), api.OK)
	lists(t, h, []int{2}, nil, nil)
	must(t, h.Drop(str(2)), api.ErrNone)
	must(t, h.Keep(str(2)), api.ErrNone)
	must(t, h.Push(2, null()), api.ErrArg)
	must(t, h.Push(1, cell(1)), api.ErrArg)
	must(t, h.Keep(table(1)), api.OK)
	must(t, h.Drop(table(1)), api.OK)
	lists(t, h, []int{2}, []int{1}, nil)
	must(t, h.Drop(table(1)), api.OK)
	lists(t, h, []int{2, 1}, nil, nil)
	must(t, h.Free(1), api.ErrArg)
	must(t, h.Free(2), api.OK)
	must(t, h.Free(1), api.ErrArg)
	if v, e := h.Pop(1); v != str(2) || e != api.OK {
		t.Error(v, e)
	}
	must(t, h.Free(1), api.OK)
	if v := h.Make(api.KindCell, ""); v != cell(1) {
		t.Error(v)
	}
}

// P13.1

func TestNew(t *testing.T) {
	h := New()
	lists(t, h, nil, nil, nil)
	if len(h.Graph().Objs) != 0 || h.Touched() || len(h.TakeBuffer()) != 0 {
		t.Error(stateOf(h))
	}
	if v, mark, ok := h.NextFin(); v != (api.Value{}) || mark != 0 || ok {
		t.Error(v, mark, ok)
	}
	for _, n := range append(farNumbers(), 1) {
		none(t, h, n)
	}
	g := New()
	h.Make(api.KindTable, "")
	if len(g.Graph().Objs) != 0 || g.Make(api.KindCell, "") != cell(1) {
		t.Error(g.Graph())
	}
}

// none wants the heap to have no object n.
func none(t *testing.T, h *Heap, n int) {
	t.Helper()
	o := h.Obj(n)
	if o.Kind != 0 || o.Count != 0 || len(o.Slots) != 0 || o.Text != "" || o.Mark != 0 || h.Mark(n) != 0 {
		t.Errorf("%d: %v", n, o)
	}
	if v, e := h.Pop(n); v != (api.Value{}) || e != api.ErrNone {
		t.Errorf("Pop(%d): %v, %d", n, v, e)
	}
	if v, e := h.At(n, 0); v != (api.Value{}) || e != api.ErrNone {
		t.Errorf("At(%d): %v, %d", n, v, e)
	}
	if v, e := h.Swap(n, 0, null()); v != (api.Value{}) || e != api.ErrNone {
		t.Errorf("Swap(%d): %v, %d", n, v, e)
	}
	if e := h.Push(n, null()); e != api.ErrNone {
		t.Errorf("Push(%d): %d", n, e)
	}
	if e := h.Lay(n, nil); e != api.ErrNone {
		t.Errorf("Lay(%d): %d", n, e)
	}
	for _, e := range []api.Errno{h.Free(n), h.Fin(n), h.Suspect(n)} {
		if e != api.ErrArg {
			t.Errorf("%d: %d", n, e)
		}
	}
}

func TestMake(t *testing.T) {
	h := New()
	var n int64
	for _, text := range []string{"", "x", "\x00\xff\n", long(api.MaxStr - 1), long(api.MaxStr)} {
		for _, kind := range kinds {
			n++
			if v := h.Make(kind, text); v != of(kind, n) {
				t.Fatal(v)
			}
			want := text
			if kind != api.KindStr {
				want = ""
			}
			o := h.Obj(int(n))
			if o.Kind != kind || o.Count != 1 || len(o.Slots) != 0 || o.Mark != 0 || o.Text != want {
				t.Errorf("%d: %v", n, o)
			}
		}
	}
	lists(t, h, nil, nil, nil)
}

// What is refused takes no number.
func TestMakeWrong(t *testing.T) {
	h := New()
	for _, kind := range []int{least, -1, api.KindNone, api.KindNil, api.KindBool, api.KindInt, api.KindLib, 10, 256 + api.KindTable, 1<<32 + api.KindStr, most} {
		if v := h.Make(kind, ""); v != (api.Value{}) {
			t.Errorf("kind %d: %v", kind, v)
		}
	}
	for _, kind := range kinds {
		for _, n := range []int{api.MaxStr + 1, api.MaxStr + 2, 1 << 20} {
			if v := h.Make(kind, long(n)); v != (api.Value{}) {
				t.Errorf("kind %d, %d bytes: %v", kind, n, v)
			}
		}
	}
	if len(h.Graph().Objs) != 0 || h.Make(api.KindTable, "") != table(1) {
		t.Error(h.Graph())
	}
}

// The least number that no object has, whichever were freed, in whatever order.
func TestMakeTakesTheLeast(t *testing.T) {
	for _, x := range []struct{ freed, next []int64 }{
		{[]int64{1}, []int64{1, 6, 7}}, {[]int64{5}, []int64{5, 6, 7}}, {[]int64{4, 2}, []int64{2, 4, 6}}, {[]int64{2, 4}, []int64{2, 4, 6}}, {[]int64{3, 4, 5}, []int64{3, 4, 5, 6}}, {[]int64{5, 3, 1}, []int64{1, 3, 5, 6}}, {[]int64{2, 1, 5, 4, 3}, []int64{1, 2, 3, 4, 5, 6}},
	} {
		h := tables(t, 5)
		for _, n := range x.freed {
			must(t, h.Drop(table(n)), api.OK)
			must(t, h.Free(int(n)), api.OK)
			none(t, h, int(n))
		}
		for _, n := range x.next {
			if v := h.Make(api.KindCell, ""); v != cell(n) {
				t.Errorf("%v: %v, not %d", x.freed, v, n)
			}
		}
	}
}

// A number is not free while its object waits to be freed.
func TestMakeLeavesTheQueueAlone(t *testing.T) {
	h := tables(t, 2)
	must(t, h.Drop(table(1)), api.OK)
	if v := h.Make(api.KindTable, ""); v != table(3) {
		t.Error(v)
	}
}

// A new object has nothing of the one that had its number.
func TestMakeAnew(t *testing.T) {
	h := made(t, api.KindTable, api.KindStr)
	must(t, h.Push(1, number(5)), api.OK)
	if h.Mark(1) != 1 || h.Mark(2) != 2 {
		t.Fatal("marks")
	}
	must(t, h.Drop(table(1)), api.OK)
	h.Pop(1)
	must(t, h.Free(1), api.OK)
	must(t, h.Drop(str(2)), api.OK)
	must(t, h.Free(2), api.OK)
	if h.Make(api.KindStr, "") != str(1) || h.Make(api.KindTable, "y") != table(2) {
		t.Fatal(h.Graph())
	}
	for n, kind := range []int{api.KindStr, api.KindTable} {
		if o := h.Obj(n + 1); o.Kind != kind || o.Count != 1 || len(o.Slots) != 0 || o.Text != "" || o.Mark != 0 {
			t.Errorf("%v", o)
		}
	}
	must(t, h.Keep(table(1)), api.ErrNone)
	must(t, h.Keep(str(1)), api.OK)
}

// P13.2

func TestKeepAndDrop(t *testing.T) {
	for _, kind := range kinds {
		h := made(t, api.KindTable, kind, api.KindStr)
		v := of(kind, 2)
		for want := 2; want < 5; want++ {
			must(t, h.Keep(v), api.OK)
			counts(t, h, 1, want, 1)
		}
		lists(t, h, nil, nil, nil)
		suspect := []int{2}
		if kind == api.KindStr {
			suspect = nil
		}
		for want := 3; want > 0; want-- {
			must(t, h.Drop(v), api.OK)
			counts(t, h, 1, want, 1)
			lists(t, h, nil, suspect, nil)
		}
		must(t, h.Keep(v), api.OK)
		lists(t, h, nil, suspect, nil)
		must(t, h.Drop(v), api.OK)
		must(t, h.Drop(v), api.OK)
		counts(t, h, 1, 0, 1)
		lists(t, h, []int{2}, nil, nil)
		for range 2 {
			stays(t, h, "Keep and Drop at 0", func() {
				must(t, h.Keep(v), api.ErrNone)
				must(t, h.Drop(v), api.ErrNone)
			})
		}
		if o := h.Obj(2); o.Kind != kind {
			t.Error(o)
		}
	}
}

// Of what is no object's nothing is done.
func TestKeepAndDropOfNothing(t *testing.T) {
	h := tables(t, 3)
	h.Watch([]int{0, 1, 2, 3})
	for _, v := range slices.Concat(plain(), wrong(), []api.Value{{}}) {
		stays(t, h, "no object's", func() {
			must(t, h.Keep(v), api.OK)
			must(t, h.Drop(v), api.OK)
		})
	}
}

func TestKeepAndDropOfWhatIsNotThere(t *testing.T) {
	h := made(t, kinds...)
	must(t, h.Drop(str(1)), api.OK)
	must(t, h.Free(1), api.OK)
	for n := int64(1); n < 8; n++ {
		for _, kind := range kinds {
			want := api.ErrNone
			if n > 1 && kind == h.Obj(int(n)).Kind {
				want = api.OK
			}
			h.Watch([]int{int(n)})
			must(t, h.Keep(of(kind, n)), want)
			must(t, h.Drop(of(kind, n)), want)
			if h.Touched() != (want == api.OK) {
				t.Errorf("kind %d, %d: %t", kind, n, h.Touched())
			}
		}
	}
	for _, n := range []int64{1<<31 - 1, 1 << 30} {
		must(t, h.Keep(table(n)), api.ErrNone)
		must(t, h.Drop(table(n)), api.ErrNone)
	}
}

// Who is suspected is so at one place, in the order in which it came to be; who is released leaves from the start, the middle or the end.
func TestBufferInOrder(t *testing.T) {
	h := tables(t, 5)
	for _, n := range []int64{3, 1, 5, 2, 4} {
		must(t, h.Keep(table(n)), api.OK)
		must(t, h.Keep(table(n)), api.OK)
		must(t, h.Drop(table(n)), api.OK)
	}
	lists(t, h, nil, []int{3, 1, 5, 2, 4}, nil)
	for _, n := range []int64{4, 5, 3} {
		must(t, h.Drop(table(n)), api.OK)
		lists(t, h, nil, []int{3, 1, 5, 2, 4}, nil)
	}
	for _, x := range []struct {
		n             int64
		queue, buffer []int
	}{
		{5, []int{5}, []int{3, 1, 2, 4}}, {4, []int{5, 4}, []int{3, 1, 2}}, {3, []int{5, 4, 3}, []int{1, 2}},
	} {
		must(t, h.Drop(table(x.n)), api.OK)
		lists(t, h, x.queue, x.buffer, nil)
	}
	must(t, h.Drop(table(1)), api.OK)
	lists(t, h, []int{5, 4, 3}, []int{1, 2}, nil)
	must(t, h.Suspect(1), api.ErrArg)
	must(t, h.Drop(table(1)), api.OK)
	must(t, h.Keep(table(2)), api.OK)
	lists(t, h, []int{5, 4, 3, 1}, []int{2}, nil)
}

// Some of a row of suspects leave, then all come again: those stand behind the others.
func TestBufferAgain(t *testing.T) {
	for first := 1; first <= 7; first++ {
		for last := first; last <= 7; last++ {
			h := tables(t, 7)
			var left, gone []int
			for n := 1; n <= 7; n++ {
				must(t, h.Suspect(n), api.OK)
			}
			for n := 1; n <= 7; n++ {
				if first <= n && n <= last {
					gone = append(gone, n)
					must(t, h.Drop(table(int64(n))), api.OK)
				} else {
					left = append(left, n)
				}
			}
			lists(t, h, gone, left, nil)
			for _, n := range gone {
				must(t, h.Free(n), api.OK)
			}
			lists(t, h, nil, left, nil)
			for _, n := range gone {
				if v := h.Make(api.KindCell, ""); v != cell(int64(n)) {
					t.Fatal(v)
				}
			}
			for n := 7; n > 0; n-- {
				want := api.ErrArg
				if slices.Contains(gone, n) {
					want = api.OK
				}
				must(t, h.Suspect(n), want)
			}
			slices.Reverse(gone)
			lists(t, h, nil, slices.Concat(left, gone), nil)
		}
	}
}

// P13.4

func TestFree(t *testing.T) {
	h := tables(t, 4)
	for _, n := range []int64{3, 1, 4} {
		must(t, h.Drop(table(n)), api.OK)
	}
	for _, order := range []struct{ no, yes int }{{1, 3}, {4, 1}, {2, 4}} {
		for _, n := range append(farNumbers(), order.no, 2, 5) {
			stays(t, h, "Free", func() { must(t, h.Free(n), api.ErrArg) })
		}
		must(t, h.Free(order.yes), api.OK)
		none(t, h, order.yes)
		must(t, h.Free(order.yes), api.ErrArg)
		must(t, h.Keep(table(int64(order.yes))), api.ErrNone)
	}
	lists(t, h, nil, nil, nil)
	if g := h.Graph(); len(g.Objs) != 2 || g.Objs[0].Kind != 0 || g.Objs[1].Kind != api.KindTable {
		t.Error(g)
	}
	for _, n := range append(farNumbers(), 1, 2, 3) {
		must(t, h.Free(n), api.ErrArg)
	}
}

// Slots keep it from being freed, whatever is in them.
func TestFreeWithSlots(t *testing.T) {
	for _, v := range append(plain(), table(1), table(2)) {
		h := tables(t, 2)
		must(t, h.Push(1, v), api.OK)
		must(t, h.Drop(table(1)), api.OK)
		stays(t, h, "Free", func() { must(t, h.Free(1), api.ErrArg) })
		must(t, h.Lay(1, nil), api.OK)
		must(t, h.Free(1), api.OK)
		none(t, h, 1)
	}
}

// What others hold of what was freed stays in their slots, and is not there.
func TestFreeOfWhatIsHeld(t *testing.T) {
	h := tables(t, 2)
	must(t, h.Push(2, table(1)), api.OK)
	must(t, h.Drop(table(1)), api.OK)
	must(t, h.Free(1), api.OK)
	slotsAre(t, h, 2, table(1))
	must(t, h.Push(2, table(1)), api.ErrArg)
	h.Make(api.KindCell, "")
	must(t, h.Push(2, table(1)), api.ErrArg)
	must(t, h.Push(2, cell(1)), api.OK)
	if v, e := h.Swap(2, 0, null()); v != table(1) || e != api.OK {
		t.Error(v, e)
	}
	slotsAre(t, h, 2, null(), cell(1))
}

// P13.8

func TestObjIsNewMemory(t *testing.T) {
	h := tables(t, 2)
	s := []api.Value{number(1), table(2), null()}
	must(t, h.Lay(1, s), api.OK)
	must(t, h.Push(1, number(4)), api.OK)
	for _, l := range [][]api.Value{h.Obj(1).Slots, h.Graph().Objs[0].Slots} {
		for i := range l[:cap(l)] {
			l[:cap(l)][i] = number(9)
		}
		slotsAre(t, h, 1, number(1), table(2), null(), number(4))
	}
	l := h.Obj(1).Slots
	must(t, h.Push(1, number(5)), api.OK)
	h.Swap(1, 0, number(6))
	if !slices.Equal(l, []api.Value{number(1), table(2), null(), number(4)}) {
		t.Error(l)
	}
}

func TestGraph(t *testing.T) {
	h := made(t, api.KindTable, api.KindStr, api.KindCell, api.KindFunc, api.KindCo)
	must(t, h.Push(3, table(1)), api.OK)
	must(t, h.Keep(table(1)), api.OK)
	h.Mark(4)
	for i, o := range h.Graph().Objs {
		p := h.Obj(i + 1)
		if o.Kind != p.Kind || o.Count != p.Count || o.Text != p.Text || o.Mark != p.Mark || !slices.Equal(o.Slots, p.Slots) {
			t.Error(o, p)
		}
	}
	for _, x := range []struct {
		v     api.Value
		kinds []int
	}{
		{str(2), []int{6, 0, 9, 7, 8}}, {of(api.KindCo, 5), []int{6, 0, 9, 7}}, {of(api.KindFunc, 4), []int{6, 0, 9}},
	} {
		must(t, h.Drop(x.v), api.OK)
		must(t, h.Free(int(x.v.N)), api.OK)
		var l []int
		for _, o := range h.Graph().Objs {
			l = append(l, o.Kind)
		}
		isLike(t, "kinds", l, x.kinds...)
	}
	h.Pop(3)
	must(t, h.Drop(cell(3)), api.OK)
	must(t, h.Free(3), api.OK)
	if g := h.Graph(); len(g.Objs) != 1 {
		t.Error(g)
	}
}

// fullHeap answers a heap in which each thing that it has is something else than at first.
func fullHeap(t *testing.T) *Heap {
	t.Helper()
	h := made(t, api.KindTable, api.KindTable, api.KindStr, api.KindTable, api.KindTable, api.KindCell, api.KindTable)
	must(t, h.Lay(1, []api.Value{table(2), number(7), str(3)}), api.OK)
	must(t, h.Drop(table(4)), api.OK)
	must(t, h.Free(4), api.OK)
	must(t, h.Drop(cell(6)), api.OK)
	must(t, h.Drop(str(3)), api.OK)
	must(t, h.Suspect(2), api.OK)
	must(t, h.Suspect(1), api.OK)
	h.Mark(5)
	h.Mark(7)
	h.Mark(1)
	must(t, h.Fin(7), api.OK)
	must(t, h.Fin(5), api.OK)
	h.Watch([]int{2, 9})
	return h
}

func TestCopy(t *testing.T) {
	steps := map[string]func(h *Heap){
		"Make":       func(h *Heap) { h.Make(api.KindStr, "z") },
		"Keep":       func(h *Heap) { h.Keep(table(2)) },
		"Drop":       func(h *Heap) { h.Drop(table(2)) },
		"Drop 1":     func(h *Heap) { h.Drop(table(1)) },
		"Push":       func(h *Heap) { h.Push(1, null()) },
		"Pop":        func(h *Heap) { h.Pop(1) },
		"Swap":       func(h *Heap) { h.Swap(1, 1, number(8)) },
		"Lay":        func(h *Heap) { h.Lay(1, nil) },
		"Free":       func(h *Heap) { h.Free(6) },
		"Mark":       func(h *Heap) { h.Mark(2) },
		"Fin":        func(h *Heap) { h.Fin(1) },
		"NextFin":    func(h *Heap) { h.NextFin() },
		"TakeBuffer": func(h *Heap) { h.TakeBuffer() },
		"Suspect":    func(h *Heap) { h.Suspect(5) },
		"Watch":      func(h *Heap) { h.Watch([]int{2, 9, 1}); h.Keep(table(1)) },
	}
	for name, step := range steps {
		h, alone := fullHeap(t), fullHeap(t)
		c := h.Copy()
		if c == h {
			t.Fatal("the same heap")
		}
		same(t, name, c, h)
		stays(t, h, name+" of the copy", func() { step(c) })
		stays(t, c, name+" of what was copied", func() { step(h) })
		step(alone)
		same(t, name, c, alone)
		same(t, name, h, alone)
	}
}

// A copy watches what the heap does, and knows what was touched.
func TestCopyOfAWatch(t *testing.T) {
	h := tables(t, 3)
	h.Watch([]int{2, 5})
	c := h.Copy()
	must(t, c.Keep(table(1)), api.OK)
	if c.Touched() || h.Touched() {
		t.Error("touched")
	}
	must(t, c.Keep(table(2)), api.OK)
	if !c.Touched() || h.Touched() || !c.Copy().Touched() {
		t.Error("not touched, or both are")
	}
	c.Watch([]int{2, 5, 1})
	must(t, h.Keep(table(1)), api.OK)
	if h.Touched() || c.Touched() {
		t.Error("what the copy watches")
	}
	must(t, h.Keep(table(2)), api.OK)
	must(t, c.Keep(table(1)), api.OK)
	if !h.Touched() || !c.Touched() {
		t.Error("what each watches")
	}
}
