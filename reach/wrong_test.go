package reach

import (
	"slices"
	"strconv"
	"testing"

	"tallow/api"
)

// among answers the graph in which o stands at that place: at 1, 4 or 7, where tables are else.
func among(place int, o api.Obj) api.Graph {
	g := graphOf("table 2 5; str; -; table 2 5; func 6 2; cell 5; table 2")
	g.Objs[place-1] = o
	return g
}

// wrongObjects may not be at any place of that graph.
func wrongObjects() []api.Obj {
	g := among(1, api.Obj{Kind: api.KindTable})
	l := []api.Obj{
		// none, but not all of it is 0 or empty
		{Count: 1}, {Count: -1}, {Mark: 1}, {Mark: -1}, {Text: "x"}, {Slots: values(g, "nil")}, {Slots: values(g, "2")},
		// a text of what is no string, slots of a string
		{Kind: api.KindTable, Text: "x"}, {Kind: api.KindFunc, Text: "x"}, {Kind: api.KindCo, Text: "x"}, {Kind: api.KindCell, Text: "x"},
		{Kind: api.KindStr, Slots: values(g, "nil")}, {Kind: api.KindStr, Text: "x", Slots: values(g, "2 5")},
	}
	for _, kind := range []int{least, -1, api.KindNil, api.KindBool, api.KindInt, api.KindLib, api.LastKind + 1, 256 + api.KindTable, 1<<32 + api.KindTable, most} {
		l = append(l, api.Obj{Kind: kind}, api.Obj{Kind: kind, Slots: values(g, "2 5")})
	}
	for kind := api.KindStr; kind <= api.KindCell; kind++ {
		l = append(l, api.Obj{Kind: kind, Count: -1}, api.Obj{Kind: kind, Count: least}, api.Obj{Kind: kind, Mark: -2}, api.Obj{Kind: kind, Mark: least})
	}
	// slots with nothing in them, values of no object and past the last one, and such of another kind
	inSlots := append(wrongValues(), values(g, "none str3 table3 table8 cell9 str2147483647 table2 str5 func6 cell5 co2")...)
	for _, v := range inSlots {
		for at := range 3 {
			l = append(l, api.Obj{Kind: api.KindTable, Slots: slices.Insert(values(g, "2 nil"), at, v)})
		}
	}
	return l
}

// refused looks whether each call answers nothing of g.
func refused(t *testing.T, g api.Graph) {
	t.Helper()
	for _, text := range []string{"", "table1", "str2 table4", "table1 table7 func5 nil"} {
		roots := values(g, text)
		if reached, others := from(t, g, roots), lost(t, g, roots); len(reached) != 0 || len(others) != 0 {
			t.Fatalf("of %v, %s: %v, %v", g, text, reached, others)
		}
	}
	for n := range len(g.Objs) + 2 {
		root := api.Value{Kind: api.KindTable, N: int64(n)}
		for _, to := range []int{0, 2, 6, n, n + 1} {
			if l := path(t, g, root, to); len(l) != 0 {
				t.Fatalf("Path(%v, %d, %d): %v", g, n, to, l)
			}
		}
	}
}

// What may not be stands at the first, the middle or the last place; it is a root, or it is not.
func TestWrongGraphs(t *testing.T) {
	for _, place := range []int{1, 4, 7} {
		g := among(place, api.Obj{Kind: api.KindTable})
		g.Objs[place-1].Slots = values(g, "2 5")
		if root := value(g, strconv.Itoa(place)); len(from(t, g, []api.Value{root})) != 4 || len(lost(t, g, nil)) != 6 || len(path(t, g, root, 6)) != 3 {
			t.Fatal(place, g)
		}
		for _, o := range wrongObjects() {
			refused(t, among(place, o))
		}
	}
}

func TestWrongAlone(t *testing.T) {
	for _, text := range []string{
		"table func1", "func str1", "co cell1", "cell table1", "str nil", "table none", "- nil", "int", "table table0", "table table2",
		"table 1 table2", "-; table table1", "table table2; -", "table 1; table 2; - 1",
	} {
		refused(t, graphOf(text))
	}
}
