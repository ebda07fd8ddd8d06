package drain

import (
	"runtime/debug"
	"slices"
	"testing"

	"tallow/api"
	"tallow/cells"
)

const many = 100003

// chain answers a heap of so many tables, each of which holds the next one, the first of which was dropped.
func chain(t *testing.T, n int) *cells.Heap {
	t.Helper()
	h := tables(t, n)
	for i := 1; i < n; i++ {
		must(t, h.Push(i, table(int64(i)+1)))
	}
	must(t, h.Drop(table(1)))
	return h
}

// P14.5

// Each step of a chain lets one slot go, or frees one object; no more than two wait.
func TestChainStepByStep(t *testing.T) {
	const n = 300
	h := chain(t, n)
	things := func() (objs, slots int) {
		for _, o := range h.Graph().Objs {
			objs += min(o.Kind, 1)
			slots += len(o.Slots)
		}
		return objs, slots
	}
	for i := range 2*n - 1 {
		if objs, slots := things(); objs != n-i/2 || slots != n-1-(i+1)/2 {
			t.Fatalf("%d objects, %d slots behind %d", objs, slots, i)
		}
		if l := h.Queue(); len(l) != 1+i%2 || l[0] != 1+i/2 {
			t.Fatalf("%v behind %d", l, i)
		}
		stepped(t, h)
	}
	over(t, h)
}

func TestLongChains(t *testing.T) {
	// Calls within calls must not become as many as a chain is long.
	defer debug.SetMaxStack(debug.SetMaxStack(1 << 20))
	for _, n := range []int{1, 2, 3, 1000, many} {
		h := chain(t, n)
		if bound := Bound(h); bound != 3*n-1 {
			t.Fatal(bound)
		}
		drained(t, h.Copy(), most, 2*n-1)
		did := 0
		for Step(h) {
			did++
		}
		if did != 2*n-1 || len(h.Graph().Objs) != 0 {
			t.Fatalf("%d steps of %d", did, n)
		}
	}
}

// One holds all; all wait then, and are freed in the order in which they were let go: the last one first.
func TestWide(t *testing.T) {
	h := tables(t, many)
	for n := int64(2); n <= many; n++ {
		must(t, h.Push(1, table(n)))
	}
	must(t, h.Drop(table(1)))
	drained(t, h, many-1, many-1)
	want := []int{1}
	for n := many; n > 1; n-- {
		want = append(want, n)
	}
	waiting := func(want []int) {
		t.Helper()
		if l := h.Queue(); !slices.Equal(l, want) {
			t.Fatalf("%d, not %d: %v..", len(l), len(want), l[:min(9, len(l))])
		}
	}
	waiting(want)
	for len(want) > 5000 {
		drained(t, h, 4999, 4999)
		want = want[4999:]
		waiting(want)
	}
	drained(t, h, most, len(want))
	over(t, h)
}

// A string that all slots hold, and a table of which each lets go.
func TestManySlots(t *testing.T) {
	h := made(t, api.KindTable, api.KindStr, api.KindTable)
	for range many {
		must(t, h.Push(1, str(2)), h.Keep(str(2)), h.Push(1, table(3)), h.Keep(table(3)))
	}
	must(t, h.Drop(str(2)), h.Drop(table(1)))
	for i := range 100 {
		stepped(t, h)
		if o := h.Obj(1); len(o.Slots) != 2*many-1-i {
			t.Fatal(len(o.Slots))
		}
	}
	lists(t, h, []int{1}, []int{3}, nil)
	drained(t, h, most, 2*many-100+2)
	lists(t, h, nil, []int{3}, nil)
	object(t, h, 3, api.KindTable, 1, 0)
	object(t, h, 2, 0, 0, 0)
}

// Many that are marked wait for their finalisers, then are let go one by one.
func TestManyFinalisers(t *testing.T) {
	h := tables(t, many)
	for n := int64(many); n > 0; n-- {
		if n%2 == 0 {
			h.Mark(int(n))
		}
		must(t, h.Drop(table(n)))
	}
	drained(t, h, most, many)
	var want []int
	for n := many - 1; n > 0; n -= 2 {
		want = append(want, n)
	}
	if l := h.Fins(); !slices.Equal(l, want) {
		t.Fatalf("%d, not %d", len(l), len(want))
	}
	for i, n := range want {
		v, mark, ok := h.NextFin()
		if v != table(int64(n)) || mark != i+1 || !ok {
			t.Fatal(v, mark, ok)
		}
		must(t, h.Drop(v))
		stepped(t, h)
		if h.Obj(n).Kind != 0 || len(h.Queue()) != 0 {
			t.Fatal(n)
		}
	}
	if len(h.Graph().Objs) != 0 {
		t.Error("objects")
	}
}
