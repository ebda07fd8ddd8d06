package graph

import (
	"slices"
	"testing"

	"tallow/api"
)

// The chapter once more, from its words: whoever asks goes through all slots of all objects.

// valueMay is chapter 2's table of what may be.
func valueMay(v api.Value) bool {
	switch {
	case v.Kind == api.KindNone || v.Kind == api.KindNil:
		return v.N == 0
	case v.Kind == api.KindBool:
		return v.N == 0 || v.N == 1
	case v.Kind == api.KindLib:
		return v.N >= 0 && v.N <= 12
	case v.Kind >= api.KindStr && v.Kind <= api.KindCell:
		return v.N >= 1 && v.N < 1<<31
	}
	return v.Kind == api.KindInt
}

func isObject(v api.Value) bool { return v.Kind >= api.KindStr && valueMay(v) }

func mayBe(g api.Graph) bool {
	for _, o := range g.Objs {
		isNone := o.Kind == 0 && o.Count == 0 && len(o.Slots) == 0 && o.Text == "" && o.Mark == 0
		isThere := o.Kind >= 5 && o.Kind <= 9 && o.Count >= 0 && o.Mark >= -1 && (o.Text == "" || o.Kind == 5) && (len(o.Slots) == 0 || o.Kind != 5)
		for _, v := range o.Slots {
			if !valueMay(v) || v.Kind == 0 {
				return false
			}
			if isObject(v) && (int(v.N) > len(g.Objs) || g.Objs[v.N-1].Kind != v.Kind) {
				return false
			}
		}
		if !isNone && !isThere {
			return false
		}
	}
	return true
}

// times answers how often the object n stands in l.
func times(l []api.Value, n int) int {
	found := 0
	for _, v := range l {
		if isObject(v) && int(v.N) == n {
			found++
		}
	}
	return found
}

func holding(g api.Graph, n int) int {
	found := 0
	for _, o := range g.Objs {
		found += times(o.Slots, n)
	}
	return found
}

func modelInto(g api.Graph) []int {
	var l []int
	for i := range g.Objs {
		l = append(l, holding(g, i+1))
	}
	return l
}

func modelExact(g api.Graph, more []api.Value) []int {
	var l []int
	for i, o := range g.Objs {
		if o.Kind != 0 && o.Count != holding(g, i+1)+times(more, i+1) {
			l = append(l, i+1)
		}
	}
	return l
}

func modelHolders(g api.Graph, n int) []int {
	var l []int
	for i, o := range g.Objs {
		if times(o.Slots, n) > 0 {
			l = append(l, i+1)
		}
	}
	return l
}

// like holds the calls against the model, whether the graph may be or not.
func like(t *testing.T, g api.Graph, mores ...[]api.Value) {
	t.Helper()
	may := mayBe(g)
	if Check(g) != may {
		t.Fatalf("Check(%v) = %t", g, !may)
	}
	if l := Into(g); may && !slices.Equal(l, modelInto(g)) || !may && len(l) != 0 {
		t.Fatalf("Into(%v) = %v", g, l)
	}
	for _, more := range mores {
		if l := Exact(g, more); may && !slices.Equal(l, modelExact(g, more)) || !may && len(l) != 0 {
			t.Fatalf("Exact(%v, %v) = %v", g, more, l)
		}
	}
	for n := -1; n <= len(g.Objs)+1; n++ {
		if l := Holders(g, n); may && !slices.Equal(l, modelHolders(g, n)) || !may && len(l) != 0 {
			t.Fatalf("Holders(%v, %d) = %v", g, n, l)
		}
	}
	if may {
		follows(t, g)
	}
}

// follows is P10.4.
func follows(t *testing.T, g api.Graph) {
	t.Helper()
	all, slots := 0, 0
	for _, n := range Into(g) {
		all += n
	}
	for i, o := range g.Objs {
		for _, v := range o.Slots {
			if isObject(v) {
				slots++
			}
		}
		for n := 1; n <= len(g.Objs); n++ {
			among := slices.Contains(Holders(g, n), i+1)
			has := slices.ContainsFunc(o.Slots, func(v api.Value) bool { return isObject(v) && int(v.N) == n })
			if among != has {
				t.Fatalf("%v: %d among the holders of %d: %t", g, i+1, n, among)
			}
		}
	}
	if all != slots {
		t.Fatalf("%v: %d, and %d slots that hold", g, all, slots)
	}
}

// lists answers all lists of up to so many of these values.
func lists(longest int, of []api.Value) [][]api.Value {
	all := [][]api.Value{nil}
	for from := 0; longest > 0; longest-- {
		to := len(all)
		for _, l := range all[from:to] {
			for _, v := range of {
				all = append(all, append(slices.Clone(l), v))
			}
		}
		from = to
	}
	return all
}

// objects answers all objects of these.
func objects(kinds, counts, marks []int, texts []string, slots [][]api.Value) []api.Obj {
	var all []api.Obj
	for _, kind := range kinds {
		for _, count := range counts {
			for _, mark := range marks {
				for _, text := range texts {
					for _, l := range slots {
						all = append(all, api.Obj{Kind: kind, Count: count, Mark: mark, Text: text, Slots: l})
					}
				}
			}
		}
	}
	return all
}

// All graphs of one object, of two and of three, of some objects each; the fewer, the more.
func TestAllSmallGraphs(t *testing.T) {
	some := lists(2, values("none nil 1 str1 table1 table2 func1"))
	for _, o := range objects([]int{-1, 0, 3, 5, 6, 7, 9, 10}, []int{-1, 0, 1, 2}, []int{-2, -1, 0, 1}, []string{"", "x"}, some) {
		like(t, api.Graph{Objs: []api.Obj{o}}, nil, values("table1"), values("str2 1 cell1"))
	}
	two := objects([]int{0, 5, 6, 7}, []int{0, 1, 2}, []int{0}, []string{""}, lists(1, values("nil str1 table1 table2 func2 str2")))
	for _, a := range two {
		for _, b := range two {
			like(t, api.Graph{Objs: []api.Obj{a, b}}, nil, values("table1"), values("str2 func1"))
		}
	}
	three := append(objects([]int{5, 6}, []int{0, 1}, []int{0}, []string{""}, lists(1, values("str1 table2 table3"))), api.Obj{})
	for _, a := range three {
		for _, b := range three {
			for _, c := range three {
				like(t, api.Graph{Objs: []api.Obj{a, b, c}}, nil, values("co3 co3"))
			}
		}
	}
}

// draws answers a source of numbers below what it is asked, the same in each run.
func draws() func(below int) int {
	bits := uint64(88172645463325252)
	return func(below int) int {
		bits ^= bits << 13
		bits ^= bits >> 7
		bits ^= bits << 17
		return int(bits % uint64(below))
	}
}

// drawnValue answers an object's value of g, or another one.
func drawnValue(draw func(below int) int, g api.Graph) api.Value {
	n := draw(len(g.Objs))
	if g.Objs[n].Kind == 0 || draw(4) == 0 {
		return values("nil false true 0 1 2 3 -1 out error")[draw(10)]
	}
	return api.Value{Kind: g.Objs[n].Kind, N: int64(n + 1)}
}

// drawnGraph answers a graph that may be, whose counts are right with the values that it answers.
func drawnGraph(draw func(below int) int) (g api.Graph, more []api.Value) {
	g.Objs = make([]api.Obj, 1+draw(9))
	for i := range g.Objs {
		g.Objs[i].Kind = []int{0, 5, 6, 7, 8, 9, 6, 6}[draw(8)]
	}
	for i := range g.Objs {
		o := &g.Objs[i]
		if o.Kind != 0 {
			o.Mark = draw(4) - 1
		}
		if o.Kind == api.KindStr {
			o.Text = []string{"", "x", "table1"}[draw(3)]
		}
		for o.Kind > api.KindStr && draw(4) > 0 {
			o.Slots = append(o.Slots, drawnValue(draw, g))
		}
	}
	for draw(3) > 0 {
		more = append(more, drawnValue(draw, g))
	}
	for i := range g.Objs {
		g.Objs[i].Count = holding(g, i+1) + times(more, i+1)
	}
	return g, more
}

// Graphs whose counts are right; then one slot of each holds something else (P10.5), one count is another one, and at last anything is.
func TestDrawnGraphs(t *testing.T) {
	draw := draws()
	for range 4000 {
		g, more := drawnGraph(draw)
		like(t, g, more, nil, slices.Concat(more, more))
		if l := Exact(g, more); !Check(g) || len(l) != 0 {
			t.Fatalf("%v, %v: %v", g, more, l)
		}
		others(t, g, more, drawnValue(draw, g))
		miscounted(t, clone(g), more, draw)
		spoilt := clone(g)
		spoil(&spoilt.Objs[draw(len(g.Objs))], draw)
		like(t, spoilt, more, nil)
	}
}

// others is P10.5: each slot comes to hold v.
func others(t *testing.T, g api.Graph, more []api.Value, v api.Value) {
	t.Helper()
	for i := range g.Objs {
		for j, was := range g.Objs[i].Slots {
			next := clone(g)
			next.Objs[i].Slots[j] = v
			var want []int
			for n := range g.Objs {
				if x := (api.Value{Kind: g.Objs[n].Kind, N: int64(n + 1)}); isObject(x) && was != v && (x == was || x == v) {
					want = append(want, n+1)
				}
			}
			if l := Exact(next, more); !slices.Equal(l, want) {
				t.Fatalf("%v, %v, %v in the slot %d of %d: %v, not %v", g, more, v, j, i+1, l, want)
			}
		}
	}
}

// miscounted looks whether an object is told whose count is another one, and no other.
func miscounted(t *testing.T, g api.Graph, more []api.Value, draw func(below int) int) {
	t.Helper()
	n := draw(len(g.Objs))
	if g.Objs[n].Kind == 0 {
		return
	}
	right := g.Objs[n].Count
	for _, count := range []int{0, right - 1, right + 1, right + draw(1000), most} {
		g.Objs[n].Count = count
		var want []int
		if count >= 0 && count != right {
			want = []int{n + 1}
		}
		if l := Exact(g, more); !slices.Equal(l, want) {
			t.Fatalf("%v, %v: %v, not %v", g, more, l, want)
		}
	}
}

// spoil changes one thing of an object, to what it often may not be.
func spoil(o *api.Obj, draw func(below int) int) {
	switch draw(6) {
	case 0:
		o.Kind = draw(12) - 1
	case 1:
		o.Count = draw(3) - 1
	case 2:
		o.Mark = draw(4) - 2
	case 3:
		o.Text = "x"
	case 4:
		o.Slots = nil
	case 5:
		v := api.Value{Kind: draw(12) - 1, N: int64(draw(12) - 1)}
		o.Slots = slices.Insert(o.Slots, draw(len(o.Slots)+1), v)
	}
}
