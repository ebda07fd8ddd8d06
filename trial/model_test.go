package trial

import (
	"slices"
	"testing"

	"tallow/api"
	"tallow/graph"
	"tallow/reach"
)

// The chapter once more, from its words: what is seen is looked for from the first slot on for each that comes next; who is not white, or not gone, leaves one by one.

// isSuspect tells whether n may be a suspect of g.
func isSuspect(g api.Graph, n int) bool {
	return n >= 1 && n <= len(g.Objs) && slices.Contains([]int{api.KindTable, api.KindFunc, api.KindCo, api.KindCell}, g.Objs[n-1].Kind)
}

// unseen answers the first object that a slot of those that were seen holds, and that was not seen yet; 0, if there is none.
func unseen(g api.Graph, seen []int) int {
	for _, n := range seen {
		for _, v := range g.Objs[n-1].Slots {
			if v.Kind > api.KindStr && !slices.Contains(seen, int(v.N)) {
				return int(v.N)
			}
		}
	}
	return 0
}

func modelSeen(g api.Graph, cands []int) []int {
	var seen []int
	for _, n := range cands {
		if isSuspect(g, n) && !slices.Contains(seen, n) {
			seen = append(seen, n)
		}
	}
	for n := unseen(g, seen); n != 0; n = unseen(g, seen) {
		seen = append(seen, n)
	}
	return seen
}

// without answers l without the first one of which no is so, and again, as long as there is one; no is asked with those that are left.
func without(l []int, no func(n int, left []int) bool) []int {
	left := slices.Clone(l)
	for {
		at := slices.IndexFunc(left, func(n int) bool { return no(n, left) })
		if at < 0 {
			return left
		}
		left = slices.Delete(left, at, at+1)
	}
}

// others answers those of l that are not in less.
func others(l, less []int) []int {
	return slices.DeleteFunc(slices.Clone(l), func(n int) bool { return slices.Contains(less, n) })
}

func modelWhite(g api.Graph, cands []int) []int {
	seen := modelSeen(g, cands)
	white := without(seen, func(n int, left []int) bool {
		return g.Objs[n-1].Count > holding(g, seen, n) || holding(g, others(seen, left), n) > 0
	})
	slices.Sort(white)
	return white
}

func modelGone(g api.Graph, numbers []int) (gone, marked []int) {
	var white []int
	for i := range g.Objs {
		if n := i + 1; isSuspect(g, n) && slices.Contains(numbers, n) {
			white = append(white, n)
		}
	}
	gone = without(white, func(n int, left []int) bool {
		return g.Objs[n-1].Mark > 0 || holding(g, others(white, left), n) > 0
	})
	isMarked := func(n int) bool { return g.Objs[n-1].Mark > 0 }
	for left := white; slices.ContainsFunc(left, isMarked); left = others(left, marked) {
		first := left[slices.IndexFunc(left, isMarked)]
		for _, n := range left {
			if g.Objs[n-1].Mark > g.Objs[first-1].Mark {
				first = n
			}
		}
		marked = append(marked, first)
	}
	return gone, marked
}

// likeWhite holds Seen and White against the model.
func likeWhite(t *testing.T, g api.Graph, cands []int) {
	t.Helper()
	if l := Seen(g, cands); !slices.Equal(l, modelSeen(g, cands)) {
		t.Fatalf("Seen(%v, %v) = %v, not %v", g, cands, l, modelSeen(g, cands))
	}
	if l := White(g, cands); !slices.Equal(l, modelWhite(g, cands)) {
		t.Fatalf("White(%v, %v) = %v, not %v", g, cands, l, modelWhite(g, cands))
	}
}

// likeGone holds Gone against the model, and looks at P12.5.
func likeGone(t *testing.T, g api.Graph, white []int) {
	t.Helper()
	gone, marked := Gone(g, white)
	wantGone, wantMarked := modelGone(g, white)
	if !slices.Equal(gone, wantGone) || !slices.Equal(marked, wantMarked) {
		t.Fatalf("Gone(%v, %v) = %v, %v, not %v, %v", g, white, gone, marked, wantGone, wantMarked)
	}
	for _, n := range gone {
		for _, holder := range graph.Holders(g, n) {
			if slices.Contains(white, holder) && !slices.Contains(gone, holder) {
				t.Fatalf("Gone(%v, %v) = %v: %d holds %d", g, white, gone, holder, n)
			}
		}
	}
}

// kept looks at P12.3 and P12.4, where somebody holds more beside, and counts are so.
func kept(t *testing.T, g api.Graph, cands []int, more []api.Value) {
	t.Helper()
	if l := graph.Exact(g, more); len(l) != 0 {
		t.Fatalf("%v, %v: miscounted are %v", g, more, l)
	}
	seen, roots := Seen(g, cands), slices.Clone(more)
	for i, o := range g.Objs {
		if !slices.Contains(seen, i+1) && o.Kind != 0 {
			roots = append(roots, api.Value{Kind: o.Kind, N: int64(i + 1)})
		}
	}
	reached := reach.From(g, roots)
	want := others(seen, reached)
	slices.Sort(want)
	if l := White(g, cands); !slices.Equal(l, want) {
		t.Fatalf("%v, %v: of %v white are %v, though from %v %v can be reached", g, cands, seen, l, roots, reached)
	}
}

// allTables makes tables of the objects from at on, each of which holds any of all objects, in all ways, and does done with each of these graphs, in which counts are right.
func allTables(g api.Graph, at int, done func()) {
	if at == len(g.Objs) {
		for i := range g.Objs {
			g.Objs[i].Count = holding(g, count1(len(g.Objs)), i+1)
		}
		done()
		return
	}
	for bits := range 1 << len(g.Objs) {
		g.Objs[at] = api.Obj{Kind: api.KindTable, Slots: []api.Value{{Kind: api.KindInt, N: 1}}}
		for i := range g.Objs {
			if bits>>i&1 == 1 {
				g.Objs[at].Slots = append(g.Objs[at].Slots, api.Value{Kind: api.KindTable, N: int64(i + 1)})
			}
		}
		allTables(g, at+1, done)
	}
}

// lists answers all lists of so many numbers out of those.
func lists(long int, of ...int) [][]int {
	if long == 0 {
		return [][]int{nil}
	}
	var all [][]int
	for _, l := range lists(long-1, of...) {
		for _, n := range of {
			all = append(all, append(slices.Clone(l), n))
		}
	}
	return all
}

// heldBeside does done with g, in which somebody holds each object so often beside.
func heldBeside(g api.Graph, often []int, done func(more []api.Value)) {
	var more []api.Value
	for i := range g.Objs {
		g.Objs[i].Count += often[i]
		for range often[i] {
			more = append(more, api.Value{Kind: g.Objs[i].Kind, N: int64(i + 1)})
		}
	}
	done(more)
	for i := range g.Objs {
		g.Objs[i].Count -= often[i]
	}
}

// All graphs of up to three tables, whichever of these somebody holds beside, and whoever is suspected.
func TestAllSmallRings(t *testing.T) {
	for n := range 4 {
		g := api.Graph{Objs: make([]api.Obj, n)}
		cands := slices.Concat(lists(1, count1(n)...), lists(2, count1(n)...), [][]int{nil, {0, 3, n + 1, 2, 1}})
		allTables(g, 0, func() {
			for _, often := range lists(n, 0, 1) {
				heldBeside(g, often, func(more []api.Value) {
					for _, l := range cands {
						likeWhite(t, g, l)
						kept(t, g, l, more)
					}
				})
			}
		})
	}
}

// All counts, right or wrong.
func TestAllSmallCounts(t *testing.T) {
	for n := 1; n < 3; n++ {
		g := api.Graph{Objs: make([]api.Obj, n)}
		allTables(g, 0, func() {
			for _, counts := range lists(n, 0, 1, 2, 3, most) {
				for i := range g.Objs {
					g.Objs[i].Count = counts[i]
				}
				for _, l := range lists(2, count1(n)...) {
					likeWhite(t, g, l)
				}
			}
		})
	}
}

// All graphs of up to three tables, with all marks, and all that could be white of them.
func TestAllSmallMarks(t *testing.T) {
	for n := range 4 {
		g := api.Graph{Objs: make([]api.Obj, n)}
		whites := [][]int{nil, {1}, {2, 1}, {3, 1}, {2, 3}, {3, 2, 1, 0, 3}}
		allTables(g, 0, func() {
			for _, marks := range lists(n, -1, 1, 2) {
				for i := range g.Objs {
					g.Objs[i].Mark = marks[i]
				}
				for _, l := range whites {
					likeGone(t, g, l)
				}
			}
		})
	}
}

// draws answers a source of numbers below what it is asked, the same in each run.
func draws() func(below int) int {
	bits := uint64(88172645463325252)
	return func(below int) int {
		bits ^= bits << 13
		bits ^= bits >> 7
		bits ^= bits << 17
		return int(bits % uint64(below))
	}
}

// drawnGraph answers a graph of up to twelve objects of all kinds, with no more than so many slots each, and what somebody holds beside.
func drawnGraph(draw func(below int) int, slots int) (g api.Graph, more []api.Value) {
	g.Objs = make([]api.Obj, 1+draw(12))
	for i := range g.Objs {
		if kind := []int{0, 5, 6, 7, 8, 9, 6, 6}[draw(8)]; kind != 0 {
			g.Objs[i].Kind, g.Objs[i].Mark = kind, []int{0, 0, 0, -1, 1, 2, 3, 3}[draw(8)]
		}
	}
	drawn := func() api.Value {
		n := draw(len(g.Objs))
		if g.Objs[n].Kind == 0 || draw(6) == 0 {
			return api.Value{Kind: api.KindInt, N: int64(n + 1)}
		}
		return api.Value{Kind: g.Objs[n].Kind, N: int64(n + 1)}
	}
	for i := range g.Objs {
		for g.Objs[i].Kind > api.KindStr && len(g.Objs[i].Slots) < slots && draw(5) > 0 {
			g.Objs[i].Slots = append(g.Objs[i].Slots, drawn())
		}
	}
	for draw(2) > 0 {
		more = append(more, drawn())
	}
	for _, n := range graph.Exact(g, more) {
		g.Objs[n-1].Count = holding(g, count1(len(g.Objs)), n) + holding(api.Graph{Objs: []api.Obj{{Slots: more}}}, []int{1}, n)
	}
	return g, more
}

// drawnNumbers answers numbers about those of g's objects.
func drawnNumbers(draw func(below int) int, g api.Graph) []int {
	var l []int
	for draw(4) > 0 {
		l = append(l, draw(len(g.Objs)+2))
	}
	return l
}

func TestDrawnGraphs(t *testing.T) {
	draw := draws()
	for i := range 20000 {
		g, more := drawnGraph(draw, 1+i%4)
		cands := drawnNumbers(draw, g)
		kept(t, g, cands, more)
		likeWhite(t, g, cands)
		likeGone(t, g, White(g, cands))
		likeGone(t, g, drawnNumbers(draw, g))
		if o := &g.Objs[draw(len(g.Objs))]; o.Kind != 0 {
			o.Count = draw(4)
		}
		likeWhite(t, g, cands)
	}
}
