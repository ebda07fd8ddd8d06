package drain

import (
	"reflect"
	"slices"
	"testing"

	"tallow/api"
	"tallow/cells"
	"tallow/graph"
	"tallow/reach"
)

// The chapter once more, from its words and those of chapter 13: a step of what can be told of a heap.
type model struct {
	state
	watched []int
}

func (m *model) touch(n int) {
	if slices.Contains(m.watched, n) {
		m.touched = true
	}
}

// step does a step, and tells whether there was one; what a model was copied of stays as it is.
func (m *model) step() bool {
	if len(m.queue) == 0 {
		return false
	}
	n := m.queue[0]
	o := &m.objs[n-1]
	m.touch(n)
	if o.Mark > 0 {
		m.queue = m.queue[1:]
		m.fins = append(slices.Clone(m.fins), n)
		o.Count++
		o.Mark = -1
	} else if last := len(o.Slots) - 1; last >= 0 {
		v := o.Slots[last]
		o.Slots = o.Slots[:last]
		m.drop(v)
	} else {
		m.queue = m.queue[1:]
		m.fins = slices.DeleteFunc(slices.Clone(m.fins), func(x int) bool { return x == n })
		*o = api.Obj{}
	}
	m.state = m.state.tidy()
	return true
}

func (m *model) drop(v api.Value) {
	n := int(v.N)
	if v.Kind < api.KindStr || n > len(m.objs) || m.objs[n-1].Kind != v.Kind || m.objs[n-1].Count == 0 {
		return
	}
	m.touch(n)
	m.objs[n-1].Count--
	if m.objs[n-1].Count == 0 {
		m.queue = append(slices.Clone(m.queue), n)
		m.buffer = slices.DeleteFunc(slices.Clone(m.buffer), func(x int) bool { return x == n })
	} else if v.Kind != api.KindStr && !slices.Contains(m.buffer, n) {
		m.buffer = append(slices.Clone(m.buffer), n)
	}
}

// like wants the heap to be just like the model.
func (m *model) like(t *testing.T, h *cells.Heap) {
	t.Helper()
	if got := stateOf(h); !reflect.DeepEqual(got, m.state) {
		t.Fatalf("%v, not %v", got, m.state)
	}
}

// draws answers a source of numbers below what it is asked, the same in each run.
func draws() func(below int) int {
	bits := uint64(88172645463325252)
	return func(below int) int {
		bits ^= bits << 13
		bits ^= bits >> 7
		bits ^= bits << 17
		return int(bits % uint64(below))
	}
}

// world is a heap, and the values that hands hold.
type world struct {
	h     *cells.Heap
	hands []api.Value
	draw  func(below int) int
}

// roots are what hands and the finalisers' queue hold.
func (w *world) roots() []api.Value {
	l := slices.Clone(w.hands)
	for _, n := range w.h.Fins() {
		l = append(l, of(w.h.Obj(n).Kind, int64(n)))
	}
	return l
}

// number is mostly that of an object.
func (w *world) number() int { return 1 + w.draw(len(w.h.Graph().Objs)+1) }

// take takes a value out of a hand, or nil, if all are empty.
func (w *world) take() api.Value {
	if len(w.hands) == 0 {
		return null()
	}
	at := w.draw(len(w.hands))
	v := w.hands[at]
	w.hands = slices.Delete(w.hands, at, at+1)
	return v
}

// give puts a value into a hand.
func (w *world) give(v api.Value) { w.hands = append(w.hands, v) }

// move moves what a hand holds into a slot, or what a slot holds into a hand.
func (w *world) move() {
	n := w.number()
	if w.draw(8) == 0 {
		if v, e := w.h.Pop(n); e == api.OK {
			w.give(v)
		}
		return
	}
	if v := w.take(); w.h.Push(n, v) != api.OK {
		w.give(v)
	}
}

// fair does something that keeps each Count right, if all are.
func (w *world) fair() {
	switch w.draw(20) {
	case 0, 1, 2:
		w.give(w.h.Make(kinds[w.draw(len(kinds))], "x"))
	case 3:
		w.give(plain()[w.draw(len(plain()))])
	case 4, 5, 6:
		v := w.take()
		w.h.Keep(v)
		w.give(v)
		w.give(v)
	case 7, 8, 9, 10, 11, 12, 13, 14:
		w.move()
	case 15, 16:
		w.h.Drop(w.take())
	case 17:
		w.h.Mark(w.number())
	case 18:
		if v, _, ok := w.h.NextFin(); ok {
			w.give(v)
		}
	case 19:
		w.h.Suspect(w.number())
	}
}

// unfair does something that may make a Count wrong, or leave values in slots that are not there any more.
func (w *world) unfair() {
	n := w.number()
	v := of(w.h.Obj(n).Kind, int64(n))
	switch w.draw(5) {
	case 0:
		w.h.Keep(v)
	case 1, 2:
		w.h.Drop(v)
	case 3:
		w.h.Push(w.number(), v)
	case 4:
		w.h.Lay(w.number(), []api.Value{v, number(int64(n)), v})
	}
}

// watch has some of all objects watched, and answers a model that is like the heap.
func (w *world) watch() *model {
	var l []int
	for w.draw(3) > 0 {
		l = append(l, w.number())
	}
	w.h.Watch(l)
	return &model{stateOf(w.h), l}
}

// steps does steps of heap and model side by side, as many as Drain or Step is asked for.
func (w *world) steps(t *testing.T, most int) {
	t.Helper()
	m := w.watch()
	did := 0
	for did < most && m.step() {
		did++
	}
	if most == 1 && w.draw(2) == 0 {
		if is := Step(w.h); is != (did == 1) {
			t.Fatalf("Step: %t", is)
		}
	} else {
		drained(t, w.h, most, did)
	}
	m.like(t, w.h)
}

// bounded is P14.3, of a copy: the queue is empty behind as many steps as Bound says; and each step does one thing, as the model says.
func (w *world) bounded(t *testing.T) {
	t.Helper()
	c, m := w.h.Copy(), w.watch()
	c.Watch(m.watched)
	bound := Bound(c)
	did := 0
	for Step(c) {
		did++
		m.step()
		m.like(t, c)
	}
	if did > bound {
		t.Fatalf("%d steps, more than %d: %v", did, bound, stateOf(w.h))
	}
	again := w.h.Copy()
	again.Watch(m.watched)
	drained(t, again, bound, did)
	m.like(t, again)
	over(t, again)
}

func TestDrawnHeaps(t *testing.T) {
	draw := draws()
	for i := range 3000 {
		w := &world{h: cells.New(), draw: draw}
		for range 5 + draw(40) {
			w.fair()
			if i%2 == 1 && draw(3) == 0 {
				w.hands = nil // counts are wrong from here on
				w.unfair()
			}
			if draw(4) == 0 {
				w.steps(t, draw(5)-1)
			}
		}
		for range draw(1 + len(w.hands)) {
			w.h.Drop(w.take())
		}
		w.bounded(t)
	}
}

// exact wants each Count to be how often slots, hands and the finalisers' queue hold an object.
func (w *world) exact(t *testing.T) {
	t.Helper()
	if l := graph.Exact(w.h.Graph(), w.roots()); len(l) != 0 || !graph.Check(w.h.Graph()) {
		t.Fatalf("P14.4: %v are miscounted: %v, %v", l, stateOf(w.h), w.hands)
	}
}

// kept does a step, and looks whether all that can be reached is as it was: P14.4.
func (w *world) kept(t *testing.T) bool {
	t.Helper()
	before := w.h.Graph()
	reached := reach.From(before, w.roots())
	is := Step(w.h)
	w.exact(t)
	for _, n := range reached {
		was, now := before.Objs[n-1], w.h.Obj(n)
		if now.Kind != was.Kind || now.Text != was.Text || !slices.Equal(now.Slots, was.Slots) {
			t.Fatalf("P14.4: %d was %v, and is %v", n, was, now)
		}
	}
	return is
}

// onlyRings wants nothing to be there behind a drain that can't be reached, but what a ring holds: who is held by nobody was freed.
func (w *world) onlyRings(t *testing.T) {
	t.Helper()
	g := w.h.Graph()
	for _, n := range reach.Lost(g, w.roots()) {
		if len(graph.Holders(g, n)) == 0 {
			t.Fatalf("nobody holds %d: %v", n, stateOf(w.h))
		}
	}
}

func TestExactHeaps(t *testing.T) {
	draw := draws()
	for range 3000 {
		w := &world{h: cells.New(), draw: draw}
		for range 10 + draw(50) {
			w.fair()
			if draw(4) == 0 {
				w.kept(t)
			}
		}
		for range draw(1 + len(w.hands)) {
			must(t, w.h.Drop(w.take()))
		}
		w.exact(t)
		for w.kept(t) {
		}
		w.onlyRings(t)
	}
}

// Two tables with all sorts of slots, marks and Counts, right or not, that are dropped by turns; each time the queue is worked off.
func TestAllSmallHeaps(t *testing.T) {
	slots := [][]api.Value{nil, {table(1)}, {table(2)}, {table(1), table(2)}, {table(2), number(2), table(2)}}
	for x := range 3 * 3 * 4 * 2 * len(slots) * len(slots) {
		pick := func(below int) int {
			at := x % below
			x /= below
			return at
		}
		h := tables(t, 2)
		must(t, h.Lay(1, slots[pick(len(slots))]), h.Lay(2, slots[pick(len(slots))]))
		for n := int64(1); n <= 2; n++ {
			for range pick(3) {
				must(t, h.Keep(table(n)))
			}
		}
		marks := pick(4)
		for n := 1; n <= 2; n++ {
			if marks>>(n-1)&1 == 1 {
				h.Mark(n)
			}
		}
		first := int64(1 + pick(2))
		for i := 0; i < 6; i++ {
			w := &world{h: h, draw: draws()}
			w.bounded(t)
			h.Drop(table([]int64{first, 3 - first}[i%2]))
		}
	}
}
