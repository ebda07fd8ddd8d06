package drain

import (
	"testing"

	"tallow/api"
	"tallow/cells"
)

// Heaps that are none: R3.
func TestNoHeap(t *testing.T) {
	h := grove(t)
	copied := *h
	for name, x := range map[string]*cells.Heap{"nil": nil, "new": new(cells.Heap), "copied as a struct": &copied} {
		stays(t, h, func() {
			if Step(x) || Bound(x) != 0 {
				t.Error(name)
			}
			for _, n := range []int{least, -1, 0, 1, 2, most} {
				if did := Drain(x, n); did != 0 {
					t.Errorf("%s: Drain(%d) = %d", name, n, did)
				}
			}
		})
	}
	drained(t, h, most, allSteps)
}

// What is in a slot, and is not there (any more), goes, and nothing is done to what has its number now: counts were wrong.
func TestSlotsOfWhatIsNotThere(t *testing.T) {
	h := tables(t, 3)
	must(t, h.Lay(2, []api.Value{table(1), table(3), table(1)}), h.Drop(table(1)))
	stepped(t, h)
	must(t, h.Drop(table(2)))
	stepped(t, h)
	object(t, h, 2, api.KindTable, 0, 0, table(1), table(3))
	if v := h.Make(api.KindCell, ""); v != of(api.KindCell, 1) {
		t.Fatal(v)
	}
	must(t, h.Keep(of(api.KindCell, 1)), h.Drop(table(3)))
	lists(t, h, []int{2, 3}, nil, nil)
	stepped(t, h)
	lists(t, h, []int{2, 3}, nil, nil)
	object(t, h, 2, api.KindTable, 0, 0, table(1))
	stepped(t, h)
	object(t, h, 1, api.KindCell, 2, 0)
	lists(t, h, []int{2, 3}, nil, nil)
	drained(t, h, most, 2)
	over(t, h)
}

// One holds itself, and its Count says that nobody does.
func TestHoldsItself(t *testing.T) {
	h := tables(t, 1)
	must(t, h.Lay(1, []api.Value{table(1), table(1)}), h.Drop(table(1)))
	for range 2 {
		stepped(t, h)
		lists(t, h, []int{1}, nil, nil)
	}
	stepped(t, h)
	over(t, h)
	if len(h.Graph().Objs) != 0 {
		t.Error(h.Graph())
	}
}

// One that waits for its finaliser is let go by a slot that was not counted: it waits behind the others, and leaves the finalisers' queue when it is freed.
func TestFinaliserLetGo(t *testing.T) {
	h := tables(t, 3)
	must(t, h.Push(2, table(1)), h.Push(1, number(5)))
	if h.Mark(1) != 1 {
		t.Fatal("Mark")
	}
	for n := int64(1); n <= 3; n++ {
		must(t, h.Drop(table(n)))
	}
	if n := Bound(h); n != 8 {
		t.Error(n)
	}
	drained(t, h, 2, 2)
	lists(t, h, []int{2, 3, 1}, nil, []int{1})
	object(t, h, 1, api.KindTable, 0, -1, number(5))
	drained(t, h, 3, 3)
	lists(t, h, []int{1}, nil, []int{1})
	drained(t, h, most, 1)
	over(t, h)
	lists(t, h, nil, nil, nil)
}

// A ring whose Counts say that nobody holds it is worked off; one of which each is held by the other one is not come to.
func TestRings(t *testing.T) {
	h := tables(t, 4)
	for n := int64(1); n <= 4; n++ {
		must(t, h.Push(int(n), table((n-1)^1+1)))
	}
	must(t, h.Keep(table(3)), h.Drop(table(3)), h.Drop(table(1)), h.Drop(table(2)))
	drained(t, h, most, 4)
	over(t, h)
	lists(t, h, nil, []int{3}, nil)
	object(t, h, 3, api.KindTable, 1, 0, table(4))
	object(t, h, 4, api.KindTable, 1, 0, table(3))
	object(t, h, 1, 0, 0, 0)
	object(t, h, 2, 0, 0, 0)
}
