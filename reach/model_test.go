package reach

import (
	"slices"
	"testing"

	"tallow/api"
	"tallow/graph"
)

// The chapter once more, from its words: what is reached is looked for among holders, and ways are tried one behind the other, least numbers first.

func isThere(g api.Graph, n int) bool { return n >= 1 && n <= len(g.Objs) && g.Objs[n-1].Kind != 0 }

// objectOf answers the number of the value's object; 0, if there is none.
func objectOf(g api.Graph, v api.Value) int {
	if v.Kind >= api.KindStr && v.Kind <= api.KindCell && v.N >= 1 && v.N <= int64(len(g.Objs)) && isThere(g, int(v.N)) {
		return int(v.N)
	}
	return 0
}

// holdsOf answers of each object, at its number, which ones it holds, rising, each once.
func holdsOf(g api.Graph) [][]int {
	holds := make([][]int, len(g.Objs)+1)
	for i, o := range g.Objs {
		for _, v := range o.Slots {
			if n := objectOf(g, v); n != 0 {
				holds[i+1] = append(holds[i+1], n)
			}
		}
		slices.Sort(holds[i+1])
		holds[i+1] = slices.Compact(holds[i+1])
	}
	return holds
}

// modelFrom: again and again one object more, as long as there is one that is a root's, or has a holder that was found.
func modelFrom(g api.Graph, roots []api.Value) []int {
	var found []int
	holds := holdsOf(g)
	can := func(n int) bool {
		isRoot := slices.ContainsFunc(roots, func(v api.Value) bool { return objectOf(g, v) == n })
		return isRoot || slices.ContainsFunc(found, func(holder int) bool { return slices.Contains(holds[holder], n) })
	}
	for more := true; more; {
		more = false
		for i := range g.Objs {
			if n := i + 1; isThere(g, n) && !slices.Contains(found, n) && can(n) {
				found = append(found, n)
				more = true
			}
		}
	}
	slices.Sort(found)
	return found
}

func modelLost(g api.Graph, roots []api.Value) []int {
	var others []int
	found := modelFrom(g, roots)
	for i := range g.Objs {
		if n := i + 1; isThere(g, n) && !slices.Contains(found, n) {
			others = append(others, n)
		}
	}
	return others
}

// firstWay answers the first way of so many objects from the last one of begun to the end, least numbers first.
func firstWay(holds [][]int, begun []int, objs, end int) []int {
	last := begun[len(begun)-1]
	if objs == 1 {
		if last == end {
			return begun
		}
		return nil
	}
	for _, n := range holds[last] {
		if w := firstWay(holds, append(slices.Clone(begun), n), objs-1, end); w != nil {
			return w
		}
	}
	return nil
}

// modelPath tries all ways of one object, of two, and so on: those that have more than all objects have one twice, and could be shorter.
func modelPath(g api.Graph, root api.Value, to int) []int {
	n := objectOf(g, root)
	if n == 0 || !isThere(g, to) || !slices.Contains(modelFrom(g, []api.Value{root}), to) {
		return nil
	}
	holds := holdsOf(g)
	for objs := 1; objs <= len(g.Objs); objs++ {
		if w := firstWay(holds, []int{n}, objs, to); w != nil {
			return w
		}
	}
	return nil
}

// like holds From and Lost against the model, with each of these as roots, and Path with each root and end.
func like(t *testing.T, g api.Graph, rootLists ...[]api.Value) {
	t.Helper()
	for _, roots := range rootLists {
		if l := From(g, roots); !slices.Equal(l, modelFrom(g, roots)) {
			t.Fatalf("From(%v, %v) = %v, not %v", g, roots, l, modelFrom(g, roots))
		}
		if l := Lost(g, roots); !slices.Equal(l, modelLost(g, roots)) {
			t.Fatalf("Lost(%v, %v) = %v, not %v", g, roots, l, modelLost(g, roots))
		}
	}
	for n := range len(g.Objs) + 2 {
		root := api.Value{Kind: api.KindTable, N: int64(n)}
		for to := range len(g.Objs) + 2 {
			if l := Path(g, root, to); !slices.Equal(l, modelPath(g, root, to)) {
				t.Fatalf("Path(%v, %d, %d) = %v, not %v", g, n, to, l, modelPath(g, root, to))
			}
		}
	}
}

// rootsOf answers all lists of up to two tables with these numbers, an int and a nil.
func rootsOf(n int) [][]api.Value {
	one := []api.Value{{Kind: api.KindNil}, {Kind: api.KindInt, N: 1}}
	for i := range n + 2 {
		one = append(one, api.Value{Kind: api.KindTable, N: int64(i)})
	}
	lists := [][]api.Value{nil}
	for _, a := range one {
		lists = append(lists, []api.Value{a})
		for _, b := range one {
			lists = append(lists, []api.Value{a, b})
		}
	}
	return lists
}

// allTables makes tables of the objects from at on, each of which holds any of all objects, in all ways, and does done with each of these graphs.
func allTables(g api.Graph, at int, done func()) {
	if at == len(g.Objs) {
		done()
		return
	}
	for bits := range 1 << len(g.Objs) {
		g.Objs[at] = api.Obj{Kind: api.KindTable, Slots: []api.Value{{Kind: api.KindInt, N: 1}}}
		for i := range g.Objs {
			if bits>>i&1 == 1 {
				g.Objs[at].Slots = append(g.Objs[at].Slots, api.Value{Kind: api.KindTable, N: int64(i + 1)})
			}
		}
		allTables(g, at+1, done)
	}
}

// All graphs of up to four tables: what each of them holds, but for the slots' order.
func TestAllSmallGraphs(t *testing.T) {
	for n := range 4 {
		g := api.Graph{Objs: make([]api.Obj, n)}
		roots := rootsOf(n)
		allTables(g, 0, func() { like(t, g, roots...) })
	}
	g := api.Graph{Objs: make([]api.Obj, 4)}
	few := [][]api.Value{nil, {{Kind: api.KindTable, N: 3}}, {{Kind: api.KindTable, N: 4}, {Kind: api.KindTable, N: 2}}}
	allTables(g, 0, func() { like(t, g, few...) })
}

// draws answers a source of numbers below what it is asked, the same in each run.
func draws() func(below int) int {
	bits := uint64(88172645463325252)
	return func(below int) int {
		bits ^= bits << 13
		bits ^= bits >> 7
		bits ^= bits << 17
		return int(bits % uint64(below))
	}
}

// drawnValue answers the value of an object of g, or another one.
func drawnValue(draw func(below int) int, g api.Graph) api.Value {
	n := draw(len(g.Objs))
	if g.Objs[n].Kind == 0 || draw(5) == 0 {
		return api.Value{Kind: api.KindInt, N: int64(n + 1)}
	}
	return api.Value{Kind: g.Objs[n].Kind, N: int64(n + 1)}
}

// drawnGraph answers a graph of up to nine objects of all kinds, with no more than so many slots each.
func drawnGraph(draw func(below int) int, slots int) api.Graph {
	g := api.Graph{Objs: make([]api.Obj, 1+draw(9))}
	for i := range g.Objs {
		g.Objs[i].Kind = []int{0, 5, 6, 7, 8, 9, 6, 6}[draw(8)]
	}
	for i := range g.Objs {
		for g.Objs[i].Kind > api.KindStr && len(g.Objs[i].Slots) < slots && draw(6) > 0 {
			g.Objs[i].Slots = append(g.Objs[i].Slots, drawnValue(draw, g))
		}
	}
	return g
}

func drawnRoots(draw func(below int) int, g api.Graph) []api.Value {
	var roots []api.Value
	for draw(3) > 0 {
		roots = append(roots, drawnValue(draw, g))
	}
	return roots
}

func TestDrawnGraphs(t *testing.T) {
	draw := draws()
	for i := range 6000 {
		g := drawnGraph(draw, 1+i%4)
		roots, more := drawnRoots(draw, g), drawnRoots(draw, g)
		like(t, g, nil, roots, more, slices.Concat(roots, more))
		all(t, g, roots, more)
		paths(t, g)
	}
}

// all is P11.3.
func all(t *testing.T, g api.Graph, roots, more []api.Value) {
	t.Helper()
	reached, others := From(g, roots), Lost(g, roots)
	both := slices.Concat(reached, others)
	slices.Sort(both)
	var there []int
	for i, o := range g.Objs {
		if o.Kind != 0 {
			there = append(there, i+1)
		}
	}
	if !slices.Equal(both, there) || !slices.IsSorted(reached) || !slices.IsSorted(others) {
		t.Fatalf("%v, %v: %v and %v", g, roots, reached, others)
	}
	withMore := From(g, slices.Concat(roots, more))
	behind := From(g, more)
	for _, n := range there {
		if slices.Contains(withMore, n) != (slices.Contains(reached, n) || slices.Contains(behind, n)) {
			t.Fatalf("%v: of %v %v, of %v %v, of both %v", g, roots, reached, more, behind, withMore)
		}
	}
	var again []api.Value
	for _, n := range reached {
		again = append(again, api.Value{Kind: g.Objs[n-1].Kind, N: int64(n)})
	}
	if l := From(g, again); !slices.Equal(l, reached) {
		t.Fatalf("%v: from %v, and from there %v", g, reached, l)
	}
	if l := Lost(g, again); !slices.Equal(l, others) {
		t.Fatalf("%v: lost are %v, and from there %v", g, others, l)
	}
}

// paths is P11.4, and that what is answered is a way, on which no object is twice.
func paths(t *testing.T, g api.Graph) {
	t.Helper()
	for i := range g.Objs {
		root := api.Value{Kind: api.KindTable, N: int64(i + 1)}
		reached := From(g, []api.Value{root})
		for j := range g.Objs {
			to := j + 1
			w := Path(g, root, to)
			if slices.Contains(reached, to) != (len(w) > 0) {
				t.Fatalf("%v: %v, and from %d to %d %v", g, reached, i+1, to, w)
			}
			if len(w) > 0 && (w[0] != i+1 || w[len(w)-1] != to) {
				t.Fatalf("%v: from %d to %d %v", g, i+1, to, w)
			}
			for k := 1; k < len(w); k++ {
				if !slices.Contains(graph.Holders(g, w[k]), w[k-1]) || slices.Contains(w[:k], w[k]) {
					t.Fatalf("%v: from %d to %d %v", g, i+1, to, w)
				}
			}
		}
	}
}
