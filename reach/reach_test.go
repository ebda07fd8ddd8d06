package reach

import (
	"slices"
	"testing"

	"tallow/api"
)

// parts looks whether of g just what is in want can be reached from roots, and all the others that are there are lost.
func parts(t *testing.T, g api.Graph, roots []api.Value, want []int) {
	t.Helper()
	if l := from(t, g, roots); !slices.Equal(l, want) {
		t.Errorf("From(%v, %v): %v, not %v", g, roots, l, want)
	}
	var others []int
	for i, o := range g.Objs {
		if o.Kind != 0 && !slices.Contains(want, i+1) {
			others = append(others, i+1)
		}
	}
	if l := lost(t, g, roots); !slices.Equal(l, others) {
		t.Errorf("Lost(%v, %v): %v, not %v", g, roots, l, others)
	}
}

// P11.1

func TestFromAndLost(t *testing.T) {
	for _, x := range []struct{ g, roots, want string }{
		// no objects, no roots
		{"", "", ""},
		{"", "table1 int1 nil", ""},
		{"-", "", ""},
		{"-; -", "table1 str2 table3", ""},
		{"table", "", ""},
		{"table 1; func 1", "", ""},
		// one object, and what it holds
		{"table", "1", "1"},
		{"str", "1", "1"},
		{"table 2; str", "1", "1 2"},
		{"table 2; str", "2", "2"},
		{"str; table 1", "2", "1 2"},
		{"table nil 2 int3 3; str; str; str", "1", "1 2 3"},
		{"table 2 2 2; func", "1", "1 2"},
		// rows
		{"table 2; func 3; co 4; cell 5; str", "1", "1 2 3 4 5"},
		{"table 2; func 3; co 4; cell 5; str", "3", "3 4 5"},
		{"str; table 1; func 2; co 3; cell 4", "5", "1 2 3 4 5"},
		{"str; table 1; func 2; co 3; cell 4", "3", "1 2 3"},
		{"co 4; table 5; str; func 2; cell 3", "1", "1 2 3 4 5"},
		// rings, and what holds itself
		{"table 1", "1", "1"},
		{"table 1; table 2", "2", "2"},
		{"table 2; table 1", "1", "1 2"},
		{"table 2; table 1", "2", "1 2"},
		{"table 2; func 3; cell 1; co 1", "2", "1 2 3"},
		{"table 2; func 3; cell 1; co 1", "4", "1 2 3 4"},
		{"table 2; func 1 3; cell 4; co 3 5; str", "1", "1 2 3 4 5"},
		{"table 2; func 1 3; cell 4; co 3 5; str", "3", "3 4 5"},
		{"table 1 2; table 2 3; table 3", "1", "1 2 3"},
		{"table 1 2; table 2 3; table 3", "3", "3"},
		// several ways to one object
		{"table 2 3; table 4; table 4; table", "1", "1 2 3 4"},
		{"table 4 2; table 3; table 4; table 5; str", "1", "1 2 3 4 5"},
		{"table 2 5; table 3; table 4; table 5; table 6; str", "1", "1 2 3 4 5 6"},
		// several roots, and one several times
		{"table; table; table", "1 3", "1 3"},
		{"table; table; table", "3 1", "1 3"},
		{"table; table; table", "3 2 1", "1 2 3"},
		{"table; table; table", "2 2 2", "2"},
		{"table 2; str; table 4; str; cell", "3 1 3", "1 2 3 4"},
		{"table 2; table; table 2", "1 3", "1 2 3"},
		{"table 2; table; table 2", "2 3 1 2", "1 2 3"},
		{"table 3; table 3; table 1", "2 1", "1 2 3"},
		// some are none
		{"-; table 3; func 5; -; cell 2; -; str", "2", "2 3 5"},
		{"-; table 3; func 5; -; cell 2; -; str", "7", "7"},
		{"-; table 3; func 5; -; cell 2; -; str", "table1 str4 7 cell6", "7"},
		// nobody is held, everybody is
		{"table; func; co; cell; str", "3", "3"},
		{"table 1 2 3; func 1 2 3; co 1 2 3", "2", "1 2 3"},
	} {
		g := graphOf(x.g)
		parts(t, g, values(g, x.roots), numbers(x.want))
	}
}

// Each kind of object that has slots holds each kind.
func TestEachKindHoldsEach(t *testing.T) {
	for _, holder := range names[api.KindTable:] {
		for _, held := range names[api.KindStr:] {
			g := graphOf(holder + " nil 2 int7; " + held + "; " + holder + " 2 3; " + held)
			parts(t, g, values(g, "1"), numbers("1 2"))
			parts(t, g, values(g, "2"), numbers("2"))
			parts(t, g, values(g, "3"), numbers("2 3"))
			if l := path(t, g, value(g, "3"), 2); !slices.Equal(l, numbers("3 2")) {
				t.Errorf("%v: %v", g, l)
			}
		}
	}
}

// What is no object's value has no object, be its N like an object's number: in slots, and as a root.
func TestValuesOfNoObject(t *testing.T) {
	for _, word := range []string{"nil", "bool0", "bool1", "int0", "int1", "int2", "int3", "int-1", "int4294967298", "int9223372036854775807", "lib0", "lib1", "lib2", "lib3", "lib12"} {
		g := graphOf("table " + word + "; table; func 2 " + word + "; cell " + word + " 1")
		v := value(g, word)
		parts(t, g, values(g, "1"), numbers("1"))
		parts(t, g, values(g, "3"), numbers("2 3"))
		parts(t, g, values(g, "4"), numbers("1 4"))
		noRoot(t, g, v)
		for to := 1; to <= 4; to++ {
			if l := path(t, g, value(g, "1"), to); to != 1 && len(l) != 0 {
				t.Errorf("%s: %v", word, l)
			}
		}
	}
}

// noRoot looks whether v has no object of g, alone and among others.
func noRoot(t *testing.T, g api.Graph, v api.Value) {
	t.Helper()
	parts(t, g, []api.Value{v}, nil)
	parts(t, g, []api.Value{v, v}, nil)
	for i := range g.Objs {
		root := api.Value{Kind: api.KindTable, N: int64(i + 1)}
		want := From(g, []api.Value{root})
		parts(t, g, []api.Value{v, root}, want)
		parts(t, g, []api.Value{root, v, v}, want)
	}
	for to := -1; to <= len(g.Objs)+1; to++ {
		if l := path(t, g, v, to); len(l) != 0 {
			t.Errorf("Path(%v, %v, %d): %v", g, v, to, l)
		}
	}
}

// far are numbers of no object of a small graph; some would be one's, if they were cut to fewer bits, or counted from 0 or from the end.
var far = []int{0, -1, -2, -3, 6, 7, 100, 256, 257, 1<<16 + 1, 1<<31 - 1, 1 << 31, 1 << 32, 1<<32 + 1, 1<<32 + 2, -1 << 31, least, least + 1, most}

// Roots of no object: those that may not be, and those whose number is of none, or past the last one.
func TestRootsOfNone(t *testing.T) {
	for _, text := range []string{"", "-", "table 2; func 1 4; -; str; cell 5", "table 1; table 2; -; -; -", "-; -; -; -; co 5"} {
		g := graphOf(text)
		for _, v := range wrongValues() {
			noRoot(t, g, v)
		}
		for kind := api.KindStr; kind <= api.KindCell; kind++ {
			for i, o := range g.Objs {
				if o.Kind == 0 {
					noRoot(t, g, api.Value{Kind: kind, N: int64(i + 1)})
				}
			}
			for _, n := range far {
				noRoot(t, g, api.Value{Kind: kind, N: int64(n)})
			}
		}
	}
}

// Roots may say another kind of object than theirs is.
func TestRootsOfAnotherKind(t *testing.T) {
	g := graphOf("table 2; func 3; co; cell 1 5; str")
	for n, want := range map[int]string{1: "1 2 3", 2: "2 3", 3: "3", 4: "1 2 3 4 5", 5: "5"} {
		for kind := api.KindStr; kind <= api.KindCell; kind++ {
			v := api.Value{Kind: kind, N: int64(n)}
			parts(t, g, []api.Value{v}, numbers(want))
			parts(t, g, []api.Value{v, {Kind: g.Objs[n-1].Kind, N: int64(n)}}, numbers(want))
			if l := path(t, g, v, n); !slices.Equal(l, []int{n}) {
				t.Errorf("%v: %v", v, l)
			}
			if l := path(t, g, v, 3); n != 5 && (len(l) == 0 || l[0] != n) || n == 5 && len(l) != 0 {
				t.Errorf("%v to 3: %v", v, l)
			}
		}
	}
}

// Counts, marks and texts say nothing of what can be reached.
func TestSlotsAlone(t *testing.T) {
	for _, count := range []int{0, 1, 5, most} {
		for _, mark := range []int{-1, 0, 1, 9} {
			g := graphOf("table 3; table 1; str; -; cell 2 3")
			for i := range g.Objs {
				if g.Objs[i].Kind != 0 {
					g.Objs[i].Count, g.Objs[i].Mark = count, mark
				}
			}
			g.Objs[2].Text = "table 5"
			parts(t, g, values(g, "2"), numbers("1 2 3"))
			if l := path(t, g, value(g, "5"), 1); !slices.Equal(l, numbers("5 2 1")) {
				t.Error(l)
			}
		}
	}
}

// The chapter's examples.

func TestExamples(t *testing.T) {
	g := graphOf("table 2 3; table 4; table 4; table 1; table 4; -; table 7")
	for roots, want := range map[string]string{"2": "1 2 3 4", "": "", "7 table6 table9": "7", "5": "1 2 3 4 5"} {
		parts(t, g, values(g, roots), numbers(want))
	}
	for roots, want := range map[string]string{"2": "5 7", "5": "7"} {
		if l := lost(t, g, values(g, roots)); !slices.Equal(l, numbers(want)) {
			t.Errorf("%s: %v", roots, l)
		}
	}
	for _, x := range []struct {
		root string
		to   int
		want string
	}{{"1", 4, "1 2 4"}, {"5", 3, "5 4 1 3"}, {"7", 7, "7"}, {"1", 5, ""}, {"table6", 1, ""}} {
		if l := path(t, g, value(g, x.root), x.to); !slices.Equal(l, numbers(x.want)) {
			t.Errorf("%s to %d: %v", x.root, x.to, l)
		}
	}
}
