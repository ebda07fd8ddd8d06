package drain

import (
	"testing"

	"tallow/api"
	"tallow/cells"
)

// first answers the heap of the chapter's examples: 1 holds 2, and was dropped.
func first(t *testing.T, mark bool) *cells.Heap {
	t.Helper()
	h := tables(t, 2)
	must(t, h.Push(1, table(2)))
	if mark && h.Mark(1) != 1 {
		t.Fatal("Mark")
	}
	must(t, h.Drop(table(1)))
	return h
}

// The chapter's examples, row by row.
func TestExamples(t *testing.T) {
	h := first(t, false)
	if n := Bound(h); n != 5 {
		t.Error(n)
	}
	stepped(t, h)
	lists(t, h, []int{1, 2}, nil, nil)
	drained(t, h, 1, 1)
	lists(t, h, []int{2}, nil, nil)
	drained(t, h, 9, 1)
	lists(t, h, nil, nil, nil)
	if Step(h) || Drain(h, -1) != 0 || Drain(h, 0) != 0 {
		t.Error("a step behind the last one")
	}
	h = first(t, true)
	stepped(t, h)
	lists(t, h, nil, nil, []int{1})
	object(t, h, 1, api.KindTable, 1, -1, table(2))
}

// P14.1

// Nothing is done as long as all are held, suspects and finalisers or not.
func TestNoStep(t *testing.T) {
	over(t, cells.New())
	h := made(t, kinds...)
	must(t, h.Push(2, str(1)), h.Push(3, table(2)), h.Suspect(3), h.Keep(of(api.KindCo, 4)), h.Drop(of(api.KindCo, 4)))
	if h.Mark(5) != 1 || h.Mark(2) != 2 {
		t.Fatal("Mark")
	}
	must(t, h.Fin(5))
	h.Watch([]int{1, 2, 3, 4, 5})
	over(t, h)
	lists(t, h, nil, []int{3, 4}, []int{5})
}

// An object of each kind without slots is freed by one step; it is the first one that is looked at.
func TestStepFrees(t *testing.T) {
	h := made(t, kinds...)
	for _, n := range []int64{3, 5, 1, 4, 2} {
		must(t, h.Drop(of(kinds[n-1], n)))
	}
	for i, n := range []int{3, 5, 1, 4, 2} {
		lists(t, h, []int{3, 5, 1, 4, 2}[i:], nil, nil)
		h.Watch([]int{n})
		stepped(t, h)
		if !h.Touched() {
			t.Errorf("%d was not touched", n)
		}
		object(t, h, n, 0, 0, 0)
	}
	over(t, h)
	if len(h.Graph().Objs) != 0 {
		t.Error(h.Graph())
	}
}

// Of an object of each kind that has slots the last one goes first, whatever is in it.
func TestStepPops(t *testing.T) {
	for _, kind := range kinds[1:] {
		h := made(t, kind)
		must(t, h.Lay(1, plain()), h.Drop(of(kind, 1)))
		for l := plain(); len(l) > 0; l = l[:len(l)-1] {
			object(t, h, 1, kind, 0, 0, l...)
			lists(t, h, []int{1}, nil, nil)
			h.Watch([]int{1})
			stepped(t, h)
			if !h.Touched() {
				t.Error("not touched")
			}
		}
		object(t, h, 1, kind, 0, 0)
		stepped(t, h)
		over(t, h)
	}
}

// What was in a slot is dropped: it is released, behind all others, or suspected, if somebody else holds it and it is no string.
func TestStepDrops(t *testing.T) {
	for _, kind := range kinds {
		for _, more := range []bool{false, true} {
			h := made(t, api.KindTable, kind, api.KindTable)
			v := of(kind, 2)
			must(t, h.Push(1, v), h.Drop(table(1)), h.Drop(table(3)))
			queue, buffer := []int{1, 3, 2}, []int(nil)
			if more {
				must(t, h.Keep(v))
				queue = queue[:2]
				if kind != api.KindStr {
					buffer = []int{2}
				}
			}
			h.Watch([]int{2})
			stepped(t, h)
			if !h.Touched() {
				t.Error("not touched")
			}
			lists(t, h, queue, buffer, nil)
			object(t, h, 1, api.KindTable, 0, 0)
			if o := h.Obj(2); o.Kind != kind || o.Count != len(buffer) && kind != api.KindStr {
				t.Error(o)
			}
			drained(t, h, most, len(queue))
			lists(t, h, nil, buffer, nil)
			object(t, h, 3, 0, 0, 0)
		}
	}
}

// A suspect that a step releases is suspected no more.
func TestStepReleasesSuspects(t *testing.T) {
	h := tables(t, 4)
	must(t, h.Push(1, table(3)), h.Keep(table(3)), h.Push(1, table(3)), h.Suspect(2), h.Suspect(3), h.Suspect(4), h.Drop(table(1)))
	stepped(t, h)
	lists(t, h, []int{1}, []int{2, 3, 4}, nil)
	stepped(t, h)
	lists(t, h, []int{1, 3}, []int{2, 4}, nil)
	drained(t, h, most, 2)
	lists(t, h, nil, []int{2, 4}, nil)
}

// Who is marked goes to the finalisers' queue with all slots, by one step, of whatever kind; then it is worked off like any other one.
func TestStepQueuesFinalisers(t *testing.T) {
	for _, kind := range kinds {
		h := made(t, api.KindTable, kind, api.KindTable)
		v, slots := of(kind, 2), []api.Value{number(7), table(1)}
		if kind == api.KindStr {
			slots = nil
		}
		for _, s := range slots {
			must(t, h.Push(2, s))
		}
		if h.Mark(3) != 1 || h.Mark(2) != 2 {
			t.Fatal("Mark")
		}
		must(t, h.Drop(v))
		h.Watch([]int{2})
		stepped(t, h)
		if !h.Touched() {
			t.Error("not touched")
		}
		lists(t, h, nil, nil, []int{2})
		object(t, h, 2, kind, 1, -1, slots...)
		object(t, h, 3, api.KindTable, 1, 1)
		over(t, h)
		if got, mark, ok := h.NextFin(); got != v || mark != 2 || !ok {
			t.Fatal(got, mark, ok)
		}
		over(t, h)
		must(t, h.Drop(v))
		lists(t, h, []int{2}, nil, nil)
		drained(t, h, most, []int{1, 4}[min(len(slots), 1)])
		lists(t, h, nil, nil, nil)
		object(t, h, 2, 0, 0, 0)
	}
}

// Finalisers are queued in the order in which nobody held their objects any more, not in that of their marks; others in between are freed.
func TestFinalisersInOrder(t *testing.T) {
	h := tables(t, 5)
	for i, n := range []int{5, 2, 3} {
		if h.Mark(n) != i+1 {
			t.Fatal("Mark")
		}
	}
	for _, n := range []int64{3, 1, 5, 4, 2} {
		must(t, h.Drop(table(n)))
	}
	for i, fins := range [][]int{{3}, {3}, {3, 5}, {3, 5}, {3, 5, 2}} {
		stepped(t, h)
		lists(t, h, []int{3, 1, 5, 4, 2}[i+1:], nil, fins)
	}
	over(t, h)
	if g := h.Graph(); len(g.Objs) != 5 || g.Objs[0].Kind != 0 || g.Objs[3].Kind != 0 {
		t.Error(g)
	}
}

// A marked one that a slot let go is queued; what it holds stays, and is not dropped.
func TestFinaliserOfAPart(t *testing.T) {
	h := tables(t, 3)
	must(t, h.Push(1, table(2)), h.Push(2, table(3)))
	if h.Mark(2) != 1 {
		t.Fatal("Mark")
	}
	must(t, h.Drop(table(1)))
	drained(t, h, most, 3)
	lists(t, h, nil, nil, []int{2})
	object(t, h, 1, 0, 0, 0)
	object(t, h, 2, api.KindTable, 1, -1, table(3))
	object(t, h, 3, api.KindTable, 1, 0)
}

const allSteps = 16

// grove answers a heap with a bit of everything: shared parts, strings, marks, a ring, a suspect; allSteps empty its queue.
func grove(t *testing.T) *cells.Heap {
	t.Helper()
	h := made(t, api.KindTable, api.KindStr, api.KindCo, api.KindTable, api.KindCell, api.KindFunc, api.KindTable, api.KindTable)
	must(t, h.Lay(1, []api.Value{str(2), number(3), table(4), table(7), str(2), table(4)}), h.Keep(str(2)), h.Keep(table(4)))
	must(t, h.Lay(4, []api.Value{str(2), of(api.KindCell, 5)}), h.Keep(str(2)))
	must(t, h.Lay(3, []api.Value{of(api.KindFunc, 6), null()}))
	must(t, h.Lay(7, []api.Value{table(8)}), h.Lay(8, []api.Value{table(7)}), h.Keep(table(7)))
	if h.Mark(5) != 1 {
		t.Fatal("Mark")
	}
	must(t, h.Drop(of(api.KindCo, 3)), h.Drop(table(1)))
	h.Watch([]int{8, 2})
	return h
}

// As many steps are done as were asked for, or as there are; it is the same whether they are done at once, or one by one, or in two goes.
func TestDrainInPieces(t *testing.T) {
	one := grove(t)
	for n := 0; n <= allSteps+3; n++ {
		piece := grove(t)
		drained(t, piece, n, min(n, allSteps))
		same(t, piece, one)
		for m := 0; m <= allSteps+1; m++ {
			twice, once := piece.Copy(), grove(t)
			drained(t, twice, m, min(m, max(allSteps-n, 0)))
			drained(t, once, n+m, min(n+m, allSteps))
			same(t, twice, once)
		}
		if Step(one) != (n < allSteps) {
			t.Fatalf("Step behind %d", n)
		}
	}
	drained(t, grove(t), most, allSteps)
}

func TestDrainOfNoSteps(t *testing.T) {
	h := grove(t)
	for _, n := range []int{0, -1, -2, least, least + 1, -1 << 31, -1 << 32, -1<<32 + 1} {
		stays(t, h, func() { drained(t, h, n, 0) })
	}
	for _, n := range []int{1 << 31, 1 << 32, 1<<32 + 1, most - 1, most} {
		drained(t, grove(t), n, allSteps)
	}
}

// A copy of a heap goes its own way, drained or not.
func TestCopies(t *testing.T) {
	h := grove(t)
	c := h.Copy()
	stays(t, h, func() { drained(t, c, 5, 5) })
	d := c.Copy()
	stays(t, c, func() { drained(t, h, most, allSteps); drained(t, d, most, allSteps-5) })
	same(t, d, h)
}

// P14.2

func TestBound(t *testing.T) {
	h := cells.New()
	bound := func(want int) {
		t.Helper()
		stays(t, h, func() {
			if n := Bound(h); n != want {
				t.Fatalf("Bound = %d, not %d: %v", n, want, stateOf(h))
			}
		})
	}
	bound(0)
	for i, kind := range kinds {
		h.Make(kind, "x")
		bound(2 * (i + 1))
	}
	h.Watch([]int{1, 2, 3, 4, 5})
	must(t, h.Lay(2, plain()))
	n := 10 + len(plain())
	bound(n)
	for i, v := range []api.Value{str(1), table(2), of(api.KindFunc, 3), of(api.KindCo, 4), of(api.KindCell, 5)} {
		must(t, h.Push(5, v))
		bound(n + i + 1)
	}
	// Counts, marks and queues are nothing to it.
	must(t, h.Keep(table(2)), h.Drop(table(2)), h.Drop(str(1)), h.Drop(of(api.KindCo, 4)))
	h.Mark(5)
	must(t, h.Fin(5))
	h.NextFin()
	bound(n + 5)
	// The numbers 1 and 4 are free then; objects behind them count as ever.
	must(t, h.Free(1))
	bound(n + 3)
	must(t, h.Free(4))
	bound(n + 1)
	h.Make(api.KindStr, "y")
	bound(n + 3)
	must(t, h.Lay(2, nil))
	bound(8 + 5)
}
