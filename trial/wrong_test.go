package trial

import (
	"slices"
	"testing"

	"tallow/api"
)

// among answers the graph in which o stands at that place: at 1, 4 or 7, where tables are else.
func among(place int, o api.Obj) api.Graph {
	g := graphOf("table!1 2 5; str; -; table!2 2 5; func 6 2; cell 5; table 2")
	g.Objs[place-1] = o
	return g
}

// wrongSlots are values that may not be in a slot of that graph; some would be those of its objects, if they were cut to fewer bits, or counted from the end.
func wrongSlots(g api.Graph) []api.Value {
	l := append(values(g, "none str3 table3 table8 cell9 str2147483647 table2 str5 func6 cell5 co2"), []api.Value{
		{Kind: -1, N: 1}, {Kind: 10, N: 1}, {Kind: 256 + api.KindTable, N: 7}, {Kind: 1<<32 + api.KindTable, N: 7}, {N: 1}, {N: -1},
		{Kind: api.KindNil, N: 1}, {Kind: api.KindBool, N: 2}, {Kind: api.KindBool, N: -1}, {Kind: api.KindLib, N: 13}, {Kind: api.KindLib, N: -1},
	}...)
	for kind := api.KindStr; kind <= api.KindCell; kind++ {
		for _, n := range []int64{0, -1, -2, 1 << 31, 1<<32 + 1, 1<<32 + 2, 1<<32 + 7, least, least + 1, most} {
			l = append(l, api.Value{Kind: kind, N: n})
		}
	}
	return l
}

// wrongObjects may not be at any place of that graph.
func wrongObjects() []api.Obj {
	g := among(1, api.Obj{Kind: api.KindTable})
	l := []api.Obj{
		// none, but not all of it is 0 or empty
		{Count: 1}, {Count: -1}, {Mark: 1}, {Mark: -1}, {Text: "x"}, {Slots: values(g, "nil")}, {Slots: values(g, "2")},
		// a text of what is no string, slots of a string
		{Kind: api.KindTable, Text: "x"}, {Kind: api.KindFunc, Text: "x"}, {Kind: api.KindCo, Text: "x"}, {Kind: api.KindCell, Text: "x"},
		{Kind: api.KindStr, Slots: values(g, "nil")}, {Kind: api.KindStr, Text: "x", Slots: values(g, "2 5")},
	}
	for _, kind := range []int{least, -1, api.KindNil, api.KindBool, api.KindInt, api.KindLib, api.LastKind + 1, 256 + api.KindTable, 1<<32 + api.KindTable, most} {
		l = append(l, api.Obj{Kind: kind}, api.Obj{Kind: kind, Mark: 1, Slots: values(g, "2 5")})
	}
	for kind := api.KindStr; kind <= api.KindCell; kind++ {
		l = append(l, api.Obj{Kind: kind, Count: -1}, api.Obj{Kind: kind, Count: least}, api.Obj{Kind: kind, Mark: -2}, api.Obj{Kind: kind, Mark: least})
	}
	for _, v := range wrongSlots(g) {
		for at := range 3 {
			l = append(l, api.Obj{Kind: api.KindTable, Slots: slices.Insert(values(g, "2 nil"), at, v)})
		}
	}
	return l
}

// refused looks whether each call answers nothing of g.
func refused(t *testing.T, g api.Graph) {
	t.Helper()
	for _, l := range [][]int{nil, {1}, {4}, {6}, {7}, {7, 6, 5, 4, 3, 2, 1, 0, 8}} {
		seen, white := seenOf(t, g, l), whiteOf(t, g, l)
		gone, marked := goneOf(t, g, l)
		if len(seen)+len(white)+len(gone)+len(marked) != 0 {
			t.Fatalf("of %v, %v: %v, %v, %v, %v", g, l, seen, white, gone, marked)
		}
	}
}

// What may not be stands at the first, the middle or the last place; it is suspected, or it is not.
func TestWrongGraphs(t *testing.T) {
	for _, place := range []int{1, 4, 7} {
		g := among(place, api.Obj{Kind: api.KindTable})
		gone, marked := goneOf(t, g, []int{1, 4, 7})
		if len(seenOf(t, g, []int{6})) != 2 || len(whiteOf(t, g, []int{place})) != 1 || len(gone)+len(marked) != 3 {
			t.Fatal(place, g)
		}
		for _, o := range wrongObjects() {
			refused(t, among(place, o))
		}
	}
}

func TestWrongAlone(t *testing.T) {
	for _, text := range []string{
		"table func1", "func str1", "co cell1", "cell table1", "str nil", "table none", "- nil", "int", "table table0", "table table2",
		"table 1 table2", "-; table table1", "table table2; -", "table 1; table 2; - 1", "table=-1", "table!-2", "str!-2; table", "-=1; table", "table; -!1",
	} {
		refused(t, graphOf(text))
	}
}
