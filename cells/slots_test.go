package cells

import (
	"slices"
	"testing"

	"tallow/api"
)

// P13.3

// Each kind of object but a string, and each value that is there.
func TestPushAndPop(t *testing.T) {
	for _, kind := range kinds[1:] {
		h := made(t, append(slices.Clone(kinds), kind)...)
		must(t, h.Drop(cell(5)), api.OK)
		values := append(plain(), of(kind, 6))
		for i, other := range kinds {
			values = append(values, of(other, int64(i)+1))
		}
		before := h.Graph()
		for i, v := range values {
			must(t, h.Push(6, v), api.OK)
			slotsAre(t, h, 6, values[:i+1]...)
		}
		for i := len(values) - 1; i >= 0; i-- {
			if v, e := h.Pop(6); v != values[i] || e != api.OK {
				t.Errorf("Pop: %v, %d", v, e)
			}
			slotsAre(t, h, 6, values[:i]...)
		}
		for range 2 {
			if v, e := h.Pop(6); v != (api.Value{}) || e != api.ErrNone {
				t.Errorf("Pop: %v, %d", v, e)
			}
		}
		for i, o := range h.Graph().Objs {
			if o.Count != before.Objs[i].Count {
				t.Errorf("%d: Count %d", i+1, o.Count)
			}
		}
		lists(t, h, []int{5}, nil, nil)
	}
}

func TestSwap(t *testing.T) {
	h := made(t, api.KindTable, api.KindStr, api.KindCell)
	s := []api.Value{table(1), str(2), number(3)}
	must(t, h.Lay(1, s), api.OK)
	must(t, h.Drop(str(2)), api.OK)
	for _, v := range append(plain(), table(1), str(2), cell(3)) {
		for i := range s {
			if was, e := h.Swap(1, i, v); was != s[i] || e != api.OK {
				t.Fatalf("Swap(1, %d, %v): %v, %d", i, v, was, e)
			}
			s[i] = v
			slotsAre(t, h, 1, s...)
		}
	}
	counts(t, h, 1, 0, 1)
	lists(t, h, []int{2}, nil, nil)
}

func TestLay(t *testing.T) {
	for _, kind := range kinds[1:] {
		h := made(t, kind, api.KindStr, api.KindTable)
		must(t, h.Drop(str(2)), api.OK)
		for _, s := range [][]api.Value{
			{null()}, {of(kind, 1), str(2), table(3), of(kind, 1)}, nil, plain(), {}, {number(1), number(2)}, {number(2), number(1)}, {number(2)},
		} {
			must(t, h.Lay(1, s), api.OK)
			slotsAre(t, h, 1, s...)
		}
		if v, e := h.Pop(1); v != number(2) || e != api.OK {
			t.Error(v, e)
		}
		counts(t, h, 1, 0, 1)
	}
}

// What is laid is not kept but by its content, and the room behind its end is left alone.
func TestLayKeepsNothing(t *testing.T) {
	h := tables(t, 2)
	room := []api.Value{table(1), null(), number(3), number(4), number(5)}
	must(t, h.Lay(1, room[:2]), api.OK)
	must(t, h.Lay(2, room[:2]), api.OK)
	must(t, h.Push(1, number(7)), api.OK)
	h.Swap(1, 0, number(8))
	if !slices.Equal(room, []api.Value{table(1), null(), number(3), number(4), number(5)}) {
		t.Error(room)
	}
	slotsAre(t, h, 2, table(1), null())
	room[1] = number(9)
	slotsAre(t, h, 1, number(8), null(), number(7))
	slotsAre(t, h, 2, table(1), null())
}

// notThere are values that are not there in a heap whose objects 1 to 3 are a table, a string and a cell, and whose object 4 was freed.
func notThere() []api.Value {
	l := append(wrong(), api.Value{}, table(2), table(3), str(1), str(3), cell(1), cell(2), of(api.KindFunc, 1), of(api.KindCo, 2))
	for _, kind := range kinds {
		for _, n := range []int64{4, 5, 6, 1 << 30, 1<<31 - 1} {
			l = append(l, of(kind, n))
		}
	}
	return l
}

// slotted answers a heap as notThere says, of which the table has two slots.
func slotted(t *testing.T) *Heap {
	t.Helper()
	h := made(t, api.KindTable, api.KindStr, api.KindCell, api.KindTable)
	must(t, h.Lay(1, []api.Value{str(2), null()}), api.OK)
	must(t, h.Drop(table(4)), api.OK)
	must(t, h.Free(4), api.OK)
	h.Watch([]int{-1, 0, 1, 2, 3, 4})
	return h
}

func TestWhatIsNotThere(t *testing.T) {
	h := slotted(t)
	for _, v := range notThere() {
		stays(t, h, "what is not there", func() {
			for _, n := range []int{1, 2, 3} {
				must(t, h.Push(n, v), api.ErrArg)
				must(t, h.Lay(n, []api.Value{v}), api.ErrArg)
			}
			for at := range 3 {
				must(t, h.Lay(1, slices.Insert([]api.Value{table(1), null()}, at, v)), api.ErrArg)
			}
			for i := range 2 {
				if was, e := h.Swap(1, i, v); was != (api.Value{}) || e != api.ErrArg {
					t.Fatalf("Swap(1, %d, %v): %v, %d", i, v, was, e)
				}
			}
		})
	}
}

// Strings have no slots, and come to none.
func TestStringsHaveNoSlots(t *testing.T) {
	h := slotted(t)
	for _, v := range append(plain(), table(1), str(2)) {
		stays(t, h, "a string", func() {
			must(t, h.Push(2, v), api.ErrArg)
			must(t, h.Lay(2, []api.Value{v}), api.ErrArg)
			must(t, h.Lay(2, nil), api.ErrArg)
			if was, e := h.Swap(2, 0, v); was != (api.Value{}) || e != api.ErrNone {
				t.Fatal(was, e)
			}
			if was, e := h.Pop(2); was != (api.Value{}) || e != api.ErrNone {
				t.Fatal(was, e)
			}
		})
	}
	slotsAre(t, h, 2)
}

// Where there is no object, or no slot, that is told first, whatever the value is.
func TestNoObjectAndNoSlot(t *testing.T) {
	h := slotted(t)
	for _, v := range []api.Value{null(), {}, table(9), of(10, 1), table(1)} {
		stays(t, h, "no slot", func() {
			for _, n := range append(farNumbers(), 4, 5) {
				must(t, h.Push(n, v), api.ErrNone)
				must(t, h.Lay(n, []api.Value{v}), api.ErrNone)
				for i := range 2 {
					if was, e := h.Swap(n, i, v); was != (api.Value{}) || e != api.ErrNone {
						t.Fatal(was, e)
					}
				}
			}
			for _, i := range []int{2, 3, -1, -2, least, most, 1 << 32, 1<<32 + 1} {
				if was, e := h.Swap(1, i, v); was != (api.Value{}) || e != api.ErrNone {
					t.Fatal(was, e)
				}
			}
			if was, e := h.Swap(3, 0, v); was != (api.Value{}) || e != api.ErrNone {
				t.Fatal(was, e)
			}
		})
	}
	for _, n := range append(farNumbers(), 4, 5) {
		none(t, h, n)
	}
	slotsAre(t, h, 1, str(2), null())
	slotsAre(t, h, 3)
}
