package cells

import (
	"reflect"
	"slices"
	"testing"

	"tallow/api"
)

// The chapter once more, from its words: all objects in a row, lists that are gone through one by one.
type model struct {
	objs                []api.Obj // the object n at n - 1
	queue, buffer, fins []int
	dues                []int // of each that stands in fins, side by side with it
	greatest            int   // Mark
	watched             []int
	touched             bool
	tally               []int // of each object: 1, and how often it was kept or put behind fins, less how often it was dropped
}

// call is a call of a heap: its name, and what is handed in.
type call struct {
	name string
	n, i int
	v    api.Value
	s    []api.Value
	l    []int
	text string
}

// answer is what comes of a call.
type answer struct {
	v  api.Value
	n  int
	ok bool
	e  api.Errno
	l  []int
}

func without(l []int, n int) []int {
	return slices.DeleteFunc(slices.Clone(l), func(m int) bool { return m == n })
}

func (m *model) has(n int) bool { return n >= 1 && n <= len(m.objs) && m.objs[n-1].Kind != 0 }

func isObjects(v api.Value) bool { return v.Kind >= 5 && v.Kind <= 9 && v.N >= 1 && v.N < 1<<31 }

// hasOf tells whether the object of v is there.
func (m *model) hasOf(v api.Value) bool {
	return isObjects(v) && m.has(int(v.N)) && m.objs[v.N-1].Kind == v.Kind
}

func (m *model) there(v api.Value) bool {
	switch v.Kind {
	case api.KindNil:
		return v.N == 0
	case api.KindBool:
		return v.N == 0 || v.N == 1
	case api.KindInt:
		return true
	case api.KindLib:
		return v.N >= 0 && v.N <= 12
	}
	return m.hasOf(v)
}

func (m *model) allThere(s []api.Value) bool {
	for _, v := range s {
		if !m.there(v) {
			return false
		}
	}
	return true
}

func (m *model) touch(n int) {
	if slices.Contains(m.watched, n) {
		m.touched = true
	}
}

func (m *model) count(n, by int) {
	m.objs[n-1].Count += by
	m.tally[n-1] += by
	m.touch(n)
}

func (m *model) Make(kind int, text string) api.Value {
	if kind < 5 || kind > 9 || len(text) > 4096 {
		return api.Value{}
	}
	n := 1
	for m.has(n) {
		n++
	}
	if n > len(m.objs) {
		m.objs, m.tally = append(m.objs, api.Obj{}), append(m.tally, 0)
	}
	m.objs[n-1], m.tally[n-1] = api.Obj{Kind: kind, Count: 1}, 1
	if kind == api.KindStr {
		m.objs[n-1].Text = text
	}
	return of(kind, int64(n))
}

func (m *model) Keep(v api.Value) api.Errno {
	if !isObjects(v) {
		return api.OK
	}
	if !m.hasOf(v) || m.objs[v.N-1].Count == 0 {
		return api.ErrNone
	}
	m.count(int(v.N), 1)
	return api.OK
}

func (m *model) Drop(v api.Value) api.Errno {
	if !isObjects(v) {
		return api.OK
	}
	n := int(v.N)
	if !m.hasOf(v) || m.objs[n-1].Count == 0 {
		return api.ErrNone
	}
	m.count(n, -1)
	if m.objs[n-1].Count == 0 {
		m.queue = append(m.queue, n)
		m.buffer = without(m.buffer, n)
	} else if v.Kind != api.KindStr && !slices.Contains(m.buffer, n) {
		m.buffer = append(m.buffer, n)
	}
	return api.OK
}

func (m *model) Lay(n int, s []api.Value) api.Errno {
	if !m.has(n) {
		return api.ErrNone
	}
	if m.objs[n-1].Kind == api.KindStr || !m.allThere(s) {
		return api.ErrArg
	}
	m.objs[n-1].Slots = slices.Clone(s)
	m.touch(n)
	return api.OK
}

func (m *model) Push(n int, v api.Value) api.Errno {
	if !m.has(n) {
		return api.ErrNone
	}
	if m.objs[n-1].Kind == api.KindStr || !m.there(v) {
		return api.ErrArg
	}
	m.objs[n-1].Slots = append(slices.Clone(m.objs[n-1].Slots), v)
	m.touch(n)
	return api.OK
}

func (m *model) At(n, i int) (api.Value, api.Errno) {
	if !m.has(n) || i < 0 || i >= len(m.objs[n-1].Slots) {
		return api.Value{}, api.ErrNone
	}
	return m.objs[n-1].Slots[i], api.OK
}

func (m *model) Pop(n int) (api.Value, api.Errno) {
	if !m.has(n) {
		return api.Value{}, api.ErrNone
	}
	s := m.objs[n-1].Slots
	v, e := m.At(n, len(s)-1)
	if e == api.OK {
		m.objs[n-1].Slots = slices.Clone(s[:len(s)-1])
		m.touch(n)
	}
	return v, e
}

func (m *model) Swap(n, i int, v api.Value) (api.Value, api.Errno) {
	was, e := m.At(n, i)
	if e != api.OK {
		return api.Value{}, e
	}
	if !m.there(v) {
		return api.Value{}, api.ErrArg
	}
	s := slices.Clone(m.objs[n-1].Slots)
	s[i] = v
	m.objs[n-1].Slots = s
	m.touch(n)
	return was, api.OK
}

func (m *model) Free(n int) api.Errno {
	if len(m.queue) == 0 || m.queue[0] != n || len(m.objs[n-1].Slots) > 0 {
		return api.ErrArg
	}
	m.objs[n-1], m.tally[n-1] = api.Obj{}, 0
	m.queue = without(m.queue, n)
	if at := slices.Index(m.fins, n); at >= 0 {
		m.leaveFins(at)
	}
	m.touch(n)
	return api.OK
}

func (m *model) leaveFins(at int) {
	m.fins = slices.Delete(slices.Clone(m.fins), at, at+1)
	m.dues = slices.Delete(slices.Clone(m.dues), at, at+1)
}

func (m *model) Mark(n int) int {
	if !m.has(n) || m.objs[n-1].Mark != 0 {
		return 0
	}
	m.greatest++
	m.objs[n-1].Mark = m.greatest
	m.touch(n)
	return m.greatest
}

func (m *model) Fin(n int) api.Errno {
	if !m.has(n) || m.objs[n-1].Mark <= 0 {
		return api.ErrArg
	}
	m.fins, m.dues = append(m.fins, n), append(m.dues, m.objs[n-1].Mark)
	m.queue = without(m.queue, n)
	m.objs[n-1].Mark = -1
	m.count(n, 1)
	return api.OK
}

func (m *model) NextFin() (api.Value, int, bool) {
	if len(m.fins) == 0 {
		return api.Value{}, 0, false
	}
	n, due := m.fins[0], m.dues[0]
	m.leaveFins(0)
	return of(m.objs[n-1].Kind, int64(n)), due, true
}

func (m *model) Suspect(n int) api.Errno {
	if !m.has(n) || m.objs[n-1].Kind == api.KindStr || m.objs[n-1].Count == 0 || slices.Contains(m.buffer, n) {
		return api.ErrArg
	}
	m.buffer = append(m.buffer, n)
	return api.OK
}

func (m *model) TakeBuffer() []int {
	l := m.buffer
	m.buffer = nil
	return l
}

func (m *model) Watch(l []int) { m.watched, m.touched = slices.Clone(l), false }

func (m *model) state() state {
	s := state{api.Graph{Objs: slices.Clone(m.objs)}, listed(slices.Clone(m.queue)), listed(slices.Clone(m.buffer)), listed(slices.Clone(m.fins)), m.touched}
	for len(s.graph.Objs) > 0 && s.graph.Objs[len(s.graph.Objs)-1].Kind == 0 {
		s.graph.Objs = s.graph.Objs[:len(s.graph.Objs)-1]
	}
	for i, o := range s.graph.Objs {
		if len(o.Slots) == 0 {
			s.graph.Objs[i].Slots = nil
		}
	}
	if len(s.graph.Objs) == 0 {
		s.graph.Objs = []api.Obj{}
	}
	return s
}

func (m *model) copied() *model {
	c := *m
	c.objs, c.tally = slices.Clone(m.objs), slices.Clone(m.tally)
	c.queue, c.buffer, c.fins, c.dues = slices.Clone(m.queue), slices.Clone(m.buffer), slices.Clone(m.fins), slices.Clone(m.dues)
	return &c
}

// calls are what both a heap and the model have.
type calls interface {
	Make(kind int, text string) api.Value
	Keep(v api.Value) api.Errno
	Drop(v api.Value) api.Errno
	Push(n int, v api.Value) api.Errno
	Pop(n int) (api.Value, api.Errno)
	At(n, i int) (api.Value, api.Errno)
	Swap(n, i int, v api.Value) (api.Value, api.Errno)
	Lay(n int, s []api.Value) api.Errno
	Free(n int) api.Errno
	Mark(n int) int
	Fin(n int) api.Errno
	NextFin() (api.Value, int, bool)
	TakeBuffer() []int
	Suspect(n int) api.Errno
	Watch(l []int)
}

func done(x calls, c call) (a answer) {
	switch c.name {
	case "Make":
		a.v = x.Make(c.n, c.text)
	case "Keep":
		a.e = x.Keep(c.v)
	case "Drop":
		a.e = x.Drop(c.v)
	case "Push":
		a.e = x.Push(c.n, c.v)
	case "Pop":
		a.v, a.e = x.Pop(c.n)
	case "At":
		a.v, a.e = x.At(c.n, c.i)
	case "Swap":
		a.v, a.e = x.Swap(c.n, c.i, c.v)
	case "Lay":
		a.e = x.Lay(c.n, c.s)
	case "Free":
		a.e = x.Free(c.n)
	case "Mark":
		a.n = x.Mark(c.n)
	case "Fin":
		a.e = x.Fin(c.n)
	case "NextFin":
		a.v, a.n, a.ok = x.NextFin()
	case "TakeBuffer":
		a.l = listed(x.TakeBuffer())
	case "Suspect":
		a.e = x.Suspect(c.n)
	case "Watch":
		x.Watch(c.l)
	default:
		panic(c.name)
	}
	return a
}

// pair is a heap, and what it must be like.
type pair struct {
	h *Heap
	m *model
}

func newPair() pair { return pair{New(), &model{}} }

func (x pair) copied() pair { return pair{x.h.Copy(), x.m.copied()} }

func (x pair) do(t *testing.T, c call) {
	t.Helper()
	if got, want := done(x.h, c), done(x.m, c); !reflect.DeepEqual(got, want) {
		t.Fatalf("%v: %v, not %v; %v", c, got, want, x.m.state())
	}
}

// check holds all that the heap tells against the model, and looks at what follows.
func (x pair) check(t *testing.T) {
	t.Helper()
	got, want := stateOf(x.h), x.m.state()
	if !reflect.DeepEqual(got, want) {
		t.Fatalf("%v, not %v", got, want)
	}
	x.lists(t, got)
	for i, o := range got.graph.Objs {
		if o.Kind != 0 && o.Count != x.m.tally[i] {
			t.Fatalf("P13.10: %d: %d, not %d", i+1, o.Count, x.m.tally[i])
		}
	}
}

// lists is P13.9.
func (x pair) lists(t *testing.T, s state) {
	t.Helper()
	for _, l := range [][]int{s.queue, s.buffer, s.fins} {
		rising := slices.Clone(l)
		slices.Sort(rising)
		if len(slices.Compact(rising)) != len(l) {
			t.Fatalf("P13.9: twice in %v", l)
		}
	}
	for i, o := range s.graph.Objs {
		if slices.Contains(s.queue, i+1) != (o.Kind != 0 && o.Count == 0) {
			t.Fatalf("P13.9: %d in the release queue, or not: %v", i+1, o)
		}
		if slices.Contains(s.buffer, i+1) && (o.Kind == 0 || o.Count == 0 || o.Kind == api.KindStr) {
			t.Fatalf("P13.9: %d in the buffer: %v", i+1, o)
		}
	}
}

// All ways of some steps from each of some beginnings, over two numbers.
func TestAllShortWays(t *testing.T) {
	calls := []call{{name: "Make", n: api.KindTable}, {name: "Make", n: api.KindStr, text: "x"}, {name: "NextFin"}, {name: "TakeBuffer"}, {name: "Watch", l: []int{1}}, {name: "Watch", l: []int{2, 1}}}
	for n := int64(1); n <= 2; n++ {
		calls = append(calls, call{name: "Keep", v: table(n)}, call{name: "Drop", v: table(n)}, call{name: "Drop", v: str(n)}, call{name: "Push", n: int(n), v: table(3 - n)}, call{name: "Pop", n: int(n)}, call{name: "Free", n: int(n)}, call{name: "Mark", n: int(n)}, call{name: "Fin", n: int(n)}, call{name: "Suspect", n: int(n)})
	}
	var on func(x pair, steps int)
	on = func(x pair, steps int) {
		x.check(t)
		if steps == 0 {
			return
		}
		for _, c := range calls {
			y := x.copied()
			y.do(t, c)
			on(y, steps-1)
		}
	}
	make2 := []call{{name: "Make", n: api.KindTable}, {name: "Make", n: api.KindTable}}
	for _, first := range [][]call{
		nil,
		make2,
		append(slices.Clip(make2), call{name: "Mark", n: 2}, call{name: "Mark", n: 1}, call{name: "Drop", v: table(2)}),
		append(slices.Clip(make2), call{name: "Mark", n: 1}, call{name: "Fin", n: 1}, call{name: "Drop", v: table(1)}, call{name: "Drop", v: table(1)}),
		append(slices.Clip(make2), call{name: "Suspect", n: 2}, call{name: "Suspect", n: 1}, call{name: "Keep", v: table(1)}),
	} {
		x := newPair()
		for _, c := range first {
			x.do(t, c)
		}
		on(x, 3)
	}
}

// draws answers a source of numbers below what it is asked, the same in each run.
func draws() func(below int) int {
	bits := uint64(88172645463325252)
	return func(below int) int {
		bits ^= bits << 13
		bits ^= bits >> 7
		bits ^= bits << 17
		return int(bits % uint64(below))
	}
}

// drawer draws calls of a heap that is like m.
type drawer struct {
	draw func(below int) int
	m    *model
}

// number is mostly that of an object.
func (d drawer) number() int { return d.draw(len(d.m.objs)+3) - 1 }

// value is mostly there.
func (d drawer) value() api.Value {
	switch n := d.number(); {
	case d.draw(20) == 0:
		l := append(wrong(), api.Value{})
		return l[d.draw(len(l))]
	case d.draw(4) == 0:
		return plain()[d.draw(len(plain()))]
	case d.m.has(n) && d.draw(20) > 0:
		return of(d.m.objs[n-1].Kind, int64(n))
	default:
		return of(kinds[d.draw(len(kinds))], int64(n))
	}
}

func (d drawer) call() call {
	names := []string{"Make", "Make", "Keep", "Keep", "Drop", "Drop", "Drop", "Drop", "Push", "Pop", "At", "Swap", "Lay", "Free", "Free", "Mark", "Fin", "NextFin", "Suspect", "TakeBuffer", "Watch"}
	c := call{name: names[d.draw(len(names))], n: d.number(), i: d.draw(5) - 1, v: d.value(), text: long(d.draw(3))}
	switch c.name {
	case "Make":
		c.n = 4 + d.draw(7)
	case "Free":
		if len(d.m.queue) > 0 && d.draw(4) > 0 {
			c.n = d.m.queue[0]
		}
	case "Lay":
		for range d.draw(4) {
			c.s = append(c.s, d.value())
		}
	case "Watch":
		// Mostly some more behind those that are watched.
		if d.draw(3) > 0 {
			c.l = slices.Clone(d.m.watched)
		}
		for range d.draw(3) {
			c.l = append(c.l, d.number())
		}
	}
	return c
}

// Some heaps, of which now one and now another is used or copied.
func TestDrawnWays(t *testing.T) {
	draw := draws()
	pairs := []pair{newPair(), newPair(), newPair()}
	for step := range 150000 {
		at := draw(len(pairs))
		if draw(300) == 0 {
			pairs[at] = pairs[draw(len(pairs))].copied()
		}
		if draw(3000) == 0 {
			pairs[at] = newPair()
		}
		x := pairs[at]
		x.do(t, drawer{draw, x.m}.call())
		if step%5 == 0 {
			x.check(t)
		}
	}
	for _, x := range pairs {
		x.check(t)
	}
}
