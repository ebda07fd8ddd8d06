package cells

import (
	"slices"
	"testing"

	"tallow/api"
)

// P13.5

// marks wants these objects to get just those Marks, in this order.
func marks(t *testing.T, h *Heap, from int, objs ...int) {
	t.Helper()
	for i, n := range objs {
		if mark := h.Mark(n); mark != from+i || h.Obj(n).Mark != from+i {
			t.Fatalf("Mark(%d): %d, not %d", n, mark, from+i)
		}
	}
}

// nextFin wants the first object of the finalisers' queue to be that, of that Mark.
func nextFin(t *testing.T, h *Heap, want api.Value, wantMark int) {
	t.Helper()
	count := h.Obj(int(want.N)).Count
	if v, mark, ok := h.NextFin(); v != want || mark != wantMark || !ok {
		t.Fatalf("NextFin: %v, %d, %t; not %v, %d", v, mark, ok, want, wantMark)
	}
	if o := h.Obj(int(want.N)); o.Count != count || o.Mark != -1 {
		t.Fatalf("behind NextFin: %v", o)
	}
}

func noFin(t *testing.T, h *Heap) {
	t.Helper()
	for range 2 {
		if v, mark, ok := h.NextFin(); v != (api.Value{}) || mark != 0 || ok {
			t.Fatalf("NextFin: %v, %d, %t", v, mark, ok)
		}
	}
}

func TestMark(t *testing.T) {
	h := made(t, kinds...)
	marks(t, h, 1, 3, 1, 5, 2, 4)
	for _, n := range append(farNumbers(), 1, 2, 3, 4, 5, 6) {
		stays(t, h, "Mark", func() {
			if mark := h.Mark(n); mark != 0 {
				t.Errorf("Mark(%d): %d", n, mark)
			}
		})
	}
	lists(t, h, nil, nil, nil)
	counts(t, h, 1, 1, 1, 1, 1)
}

// The greatest Mark that was given counts also when its object is no more, and one that waits to be freed may be marked.
func TestMarkGoesOn(t *testing.T) {
	h := tables(t, 2)
	marks(t, h, 1, 1, 2)
	must(t, h.Drop(table(2)), api.OK)
	must(t, h.Free(2), api.OK)
	h.Make(api.KindCell, "")
	marks(t, h, 3, 2)
	h.Make(api.KindTable, "")
	must(t, h.Drop(table(3)), api.OK)
	marks(t, h, 4, 3)
	if h.Mark(2) != 0 || h.Mark(3) != 0 {
		t.Error("marked twice")
	}
}

func TestFin(t *testing.T) {
	for i, kind := range kinds {
		n := i + 1
		h := made(t, kinds...)
		v := of(kind, int64(n))
		marks(t, h, 1, 3-min(n, 2), n)
		must(t, h.Keep(v), api.OK)
		must(t, h.Fin(n), api.OK)
		if o := h.Obj(n); o.Count != 3 || o.Mark != -1 || o.Kind != kind {
			t.Error(o)
		}
		lists(t, h, nil, nil, []int{n})
		stays(t, h, "Fin and Mark again", func() {
			must(t, h.Fin(n), api.ErrArg)
			if h.Mark(n) != 0 {
				t.Error("marked again")
			}
		})
		nextFin(t, h, v, 2)
		lists(t, h, nil, nil, nil)
		noFin(t, h)
		must(t, h.Fin(n), api.ErrArg)
	}
}

func TestFinWrong(t *testing.T) {
	h := tables(t, 3)
	marks(t, h, 1, 2)
	must(t, h.Drop(table(3)), api.OK)
	h.Watch([]int{0, 1, 2, 3, 4})
	for _, n := range append(farNumbers(), 1, 3, 4) {
		stays(t, h, "Fin", func() { must(t, h.Fin(n), api.ErrArg) })
	}
}

// In the order in which they were put there, whatever their Marks and numbers are.
func TestFinsInOrder(t *testing.T) {
	h := tables(t, 4)
	marks(t, h, 1, 4, 2, 1, 3)
	for _, n := range []int{2, 3, 4, 1} {
		must(t, h.Fin(n), api.OK)
	}
	lists(t, h, nil, nil, []int{2, 3, 4, 1})
	counts(t, h, 2, 2, 2, 2)
	nextFin(t, h, table(2), 2)
	nextFin(t, h, table(3), 4)
	h.Make(api.KindCell, "")
	marks(t, h, 5, 5)
	must(t, h.Fin(5), api.OK)
	lists(t, h, nil, nil, []int{4, 1, 5})
	nextFin(t, h, table(4), 1)
	nextFin(t, h, table(1), 3)
	nextFin(t, h, cell(5), 5)
	noFin(t, h)
}

// One that waits to be freed leaves the release queue, from wherever it stands there, and is held again.
func TestFinOutOfTheQueue(t *testing.T) {
	for n := 1; n <= 4; n++ {
		h := tables(t, 4)
		marks(t, h, 1, n)
		for m := range int64(4) {
			must(t, h.Drop(table(m+1)), api.OK)
		}
		must(t, h.Fin(n), api.OK)
		left := slices.DeleteFunc([]int{1, 2, 3, 4}, func(m int) bool { return m == n })
		lists(t, h, left, nil, []int{n})
		if h.Obj(n).Count != 1 {
			t.Error(h.Obj(n))
		}
		must(t, h.Keep(table(int64(n))), api.OK)
		must(t, h.Drop(table(int64(n))), api.OK)
		lists(t, h, left, []int{n}, []int{n})
		nextFin(t, h, table(int64(n)), 1)
		must(t, h.Drop(table(int64(n))), api.OK)
		lists(t, h, append(left, n), nil, nil)
		for _, m := range append(left, n) {
			must(t, h.Free(m), api.OK)
		}
		if len(h.Graph().Objs) != 0 {
			t.Error(h.Graph())
		}
	}
}

// A suspect stays one.
func TestFinOfASuspect(t *testing.T) {
	h := tables(t, 2)
	must(t, h.Suspect(1), api.OK)
	must(t, h.Suspect(2), api.OK)
	marks(t, h, 1, 1)
	must(t, h.Fin(1), api.OK)
	lists(t, h, nil, []int{1, 2}, []int{1})
}

// Who is freed leaves the finalisers' queue too; who then gets its number does not stand there.
func TestFreeOutOfTheFins(t *testing.T) {
	for n := 1; n <= 3; n++ {
		h := tables(t, 3)
		marks(t, h, 1, 1, 2, 3)
		for m := 3; m > 0; m-- {
			must(t, h.Fin(m), api.OK)
		}
		v := table(int64(n))
		must(t, h.Drop(v), api.OK)
		must(t, h.Drop(v), api.OK)
		lists(t, h, []int{n}, nil, []int{3, 2, 1})
		must(t, h.Free(n), api.OK)
		left := slices.DeleteFunc([]int{3, 2, 1}, func(m int) bool { return m == n })
		lists(t, h, nil, nil, left)
		if h.Make(api.KindTable, "") != v {
			t.Fatal(h.Graph())
		}
		lists(t, h, nil, nil, left)
		marks(t, h, 4, n)
		must(t, h.Fin(n), api.OK)
		lists(t, h, nil, nil, append(left, n))
		for _, m := range left {
			nextFin(t, h, table(int64(m)), m)
		}
		nextFin(t, h, v, 4)
		noFin(t, h)
	}
}

// P13.6

func TestTakeBuffer(t *testing.T) {
	h := tables(t, 4)
	for _, n := range []int{4, 2, 3} {
		must(t, h.Suspect(n), api.OK)
	}
	must(t, h.Drop(table(2)), api.OK)
	was := h.Copy()
	isLike(t, "TakeBuffer", h.TakeBuffer(), 4, 3)
	lists(t, h, []int{2}, nil, nil)
	isLike(t, "TakeBuffer", h.TakeBuffer())
	lists(t, was, []int{2}, []int{4, 3}, nil)
	counts(t, h, 1, 0, 1, 1)
	must(t, h.Suspect(3), api.OK)
	must(t, h.Keep(table(4)), api.OK)
	must(t, h.Drop(table(4)), api.OK)
	lists(t, h, []int{2}, []int{3, 4}, nil)
	isLike(t, "TakeBuffer", h.TakeBuffer(), 3, 4)
	must(t, h.Drop(table(4)), api.OK)
	lists(t, h, []int{2, 4}, nil, nil)
}

func TestSuspect(t *testing.T) {
	h := made(t, api.KindStr, api.KindTable, api.KindFunc, api.KindCo, api.KindCell, api.KindTable)
	must(t, h.Drop(table(6)), api.OK)
	h.Watch([]int{1, 2, 3, 4, 5, 6})
	for i, n := range []int{5, 3, 2, 4} {
		must(t, h.Suspect(n), api.OK)
		lists(t, h, []int{6}, []int{5, 3, 2, 4}[:i+1], nil)
	}
	counts(t, h, 1, 1, 1, 1, 1, 0)
	for _, n := range append(farNumbers(), 1, 2, 3, 4, 5, 6, 7) {
		stays(t, h, "Suspect", func() { must(t, h.Suspect(n), api.ErrArg) })
	}
	if h.Touched() {
		t.Error("touched")
	}
}
