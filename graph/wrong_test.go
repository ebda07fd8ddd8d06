package graph

import (
	"slices"
	"strconv"
	"testing"

	"tallow/api"
)

// Objects that may not be stand at the first, the middle and the last place of a graph of seven, at 1, 4 or 7. The others stay: 2 is a string, 3 a table, 5 none, 6 a function.
var places = []int{1, 4, 7}

// among answers the graph in which o stands at that place, and tables at the two other ones. Its counts are wrong, and each of its objects but 5 is held, so that of each call there would be something to answer.
func among(place int, o api.Obj) api.Graph {
	g := graphOf("table 9 str2 table3; str 0; table 9 str2 table3 nil func6; table 0 table3 7; -; func 9 table3 func6; table 0 str2")
	g.Objs[place-1] = o
	return g
}

// wrongObjects are objects that may not be at any place of that graph: some of each way that the chapter names.
func wrongObjects() []api.Obj {
	l := []api.Obj{
		// none, but not all of it is 0 or empty
		{Count: 1}, {Count: -1}, {Count: most}, {Mark: 1}, {Mark: -1}, {Text: "x"}, {Text: "\x00"}, {Slots: values("nil")}, {Slots: values("none")}, {Slots: values("str2")}, {Slots: values("0 0")},
		// a text of what is no string
		{Kind: api.KindTable, Text: "x"}, {Kind: api.KindFunc, Text: "\x00"}, {Kind: api.KindCo, Text: "co"}, {Kind: api.KindCell, Text: "x", Slots: values("str2")},
		// slots of a string
		{Kind: api.KindStr, Slots: values("nil")}, {Kind: api.KindStr, Slots: values("none")}, {Kind: api.KindStr, Text: "x", Slots: values("str2 table3")}, {Kind: api.KindStr, Slots: values("5")},
	}
	for _, kind := range []int{least, -1 << 32, -5, -1, api.KindNil, api.KindBool, api.KindInt, api.KindLib, api.LastKind + 1, 11, 256, 256 + api.KindTable, 1 << 32, 1<<32 + api.KindTable, most} {
		l = append(l, api.Obj{Kind: kind}, api.Obj{Kind: kind, Count: 1, Slots: values("str2")}, api.Obj{Kind: kind, Text: "x"})
	}
	for kind := api.KindStr; kind <= api.KindCell; kind++ {
		l = append(l, api.Obj{Kind: kind, Count: -1}, api.Obj{Kind: kind, Count: least}, api.Obj{Kind: kind, Mark: -2}, api.Obj{Kind: kind, Mark: least}, api.Obj{Kind: kind, Count: -1, Mark: -1})
	}
	for _, v := range wrongValues() {
		for kind := api.KindTable; kind <= api.KindCell; kind++ {
			l = append(l, api.Obj{Kind: kind, Slots: []api.Value{v}})
		}
		for at := range 4 {
			l = append(l, api.Obj{Kind: api.KindTable, Count: 1, Slots: slices.Insert(values("str2 nil func6"), at, v)})
		}
	}
	return l
}

// wrongValues are values that may not be in a slot of that graph.
func wrongValues() []api.Value {
	l := append(wrong(), api.Value{})
	for _, kind := range kinds {
		// no object, and past the last one
		for _, n := range []int{5, 8, 9, 100, 1<<31 - 1} {
			l = append(l, value(kind+strconv.Itoa(n)))
		}
		// objects of another kind
		for n, its := range map[int]string{2: "str", 3: "table", 6: "func"} {
			if kind != its {
				l = append(l, value(kind+strconv.Itoa(n)))
			}
		}
	}
	return l
}

// P10.1, and what the others answer of such a graph.
func TestWrongObjects(t *testing.T) {
	for _, place := range places {
		if g := among(place, object("table 0 str2 nil")); !check(t, g) || len(into(t, g)) != 7 || len(exact(t, g, nil)) == 0 || len(holders(t, g, 2)) == 0 {
			t.Fatal(place, check(t, g), into(t, g), exact(t, g, nil), holders(t, g, 2))
		}
		for _, o := range wrongObjects() {
			refused(t, among(place, o))
		}
	}
	for _, o := range wrongObjects() {
		g := among(1, o)
		g.Objs[3], g.Objs[6] = o, o
		refused(t, g)
	}
}

func refused(t *testing.T, g api.Graph) {
	t.Helper()
	if check(t, g) {
		t.Errorf("%v may be", g)
	}
	if l := into(t, g); len(l) != 0 {
		t.Errorf("Into(%v) = %v", g, l)
	}
	for _, text := range []string{"", "table1 table3 5 str2", "nil"} {
		if l := exact(t, g, values(text)); len(l) != 0 {
			t.Errorf("Exact(%v, %s) = %v", g, text, l)
		}
	}
	for n := -1; n <= 9; n++ {
		if l := holders(t, g, n); len(l) != 0 {
			t.Errorf("Holders(%v, %d) = %v", g, n, l)
		}
	}
}

// An object alone, that holds itself under another kind, or what would be ahead of it or behind it.
func TestWrongAlone(t *testing.T) {
	for _, text := range []string{
		"table 1 func1", "table 1 str1", "func 1 table1", "co 1 cell1", "cell 1 co1",
		"table 1 table0", "table 1 table2", "table 1 table-1", "table 2 table1 table2", "table 1 table1 none",
		"-; table 1 table1", "table 0 table2; -", "table 1 table2; str 1", "str 1; table 0 table1",
	} {
		refused(t, graphOf(text))
	}
}
