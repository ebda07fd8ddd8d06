package graph

import (
	"slices"
	"strings"
	"testing"

	"tallow/api"
)

// P10.1; the graphs that may not be stand in wrong_test.go.

func TestMayBe(t *testing.T) {
	for _, text := range []string{
		"",
		"-", "-; -; -",
		"str 0", "table 0", "func 0", "co 0", "cell 0",
		"str 5", "table 5; -; co 9223372036854775807",
		"table 1 table1", "func 2 func1 func1", "co 1 co1", "cell 1 cell1",
		"table 0 str2 table3 func4 co5 cell6; str 1; table 1; func 1; co 1; cell 1",
		"func 0 cell5 table4 str2 nil; str 0; -; table 0 nil true; cell 0 func1",
		"table 0 nil false true 0 -1 5 9223372036854775807 -9223372036854775808 out error",
		"-; -; cell 0 co4; co 0 cell3; -",
	} {
		if !check(t, graphOf(text)) {
			t.Errorf("%q may not be", text)
		}
	}
}

// Each kind of object may have each mark from -1 on and each count from 0 on; a string each text, and no other one any.
func TestMayHave(t *testing.T) {
	for kind := range 12 {
		for _, count := range []int{0, 1, 2, 1 << 31, most} {
			for _, mark := range []int{-1, 0, 1, 1 << 31, most} {
				for _, text := range []string{"", "x", "\x00", strings.Repeat("y", api.MaxStr+1)} {
					for _, l := range [][]api.Value{nil, {}, values("nil"), values("7 -7")} {
						o := api.Obj{Kind: kind, Count: count, Mark: mark, Text: text, Slots: l}
						want := kind >= 5 && kind <= 9 && (kind == 5 || text == "") && (kind != 5 || len(l) == 0) ||
							kind == 0 && count == 0 && mark == 0 && text == "" && len(l) == 0
						if g := (api.Graph{Objs: []api.Obj{o}}); check(t, g) != want {
							t.Errorf("%v: %t", o, !want)
						}
					}
				}
			}
		}
	}
}

// Objects may hold one another, each kind each kind, whichever comes first.
func TestEachHoldsEach(t *testing.T) {
	for _, holder := range kinds[1:] {
		for _, held := range kinds {
			for text, want := range map[string]string{
				holder + " 0 " + held + "2; " + held + " 1":                           "0 1",
				held + " 1; " + holder + " 0 " + held + "1":                           "1 0",
				held + " 2; -; " + holder + " 0 " + held + "1 nil " + held + "1 5; -": "2 0 0 0",
			} {
				g := graphOf(text)
				if !check(t, g) || !slices.Equal(into(t, g), numbers(want)) || len(exact(t, g, nil)) != 0 {
					t.Errorf("%s: %t, %v, %v", text, check(t, g), into(t, g), exact(t, g, nil))
				}
			}
		}
	}
}

// P10.2

func TestIntoAndHolders(t *testing.T) {
	for _, x := range []struct {
		g, into string
		holders []string // of 1, of 2 ..
	}{
		{"", "", nil},
		{"-", "0", []string{""}},
		{"-; -", "0 0", []string{"", ""}},
		{"str 0", "0", []string{""}},
		{"table 0", "0", []string{""}},
		{"table 0 table1", "1", []string{"1"}},
		{"table 0 table1 table1 table1", "3", []string{"1"}},
		{"cell 0 func2; func 0 cell1", "1 1", []string{"2", "1"}},
		{"table 0 table2; table 0 table3; table 0 table1", "1 1 1", []string{"3", "1", "2"}},
		{"str 0; table 0 str1 str1; -; cell 0 str1; co 0; func 0 str1 nil str1 cell4", "5 0 0 1 0 0", []string{"2 4 6", "", "", "6", "", ""}},
		{"table 0 3 2 1; co 0 true false out nil 1; func 0 -1 -2 -3", "0 0 0", []string{"", "", ""}},
		{"-; table 0 table2 table4; -; table 0 nil table4 5 table2; -", "0 2 0 2 0", []string{"", "2 4", "", "2 4", ""}},
		{"table 0 str7 co5; func 0 str7; cell 0 str7; -; co 0 str7 table1 func2 cell3; -; str 0", "1 1 1 0 1 0 4", []string{"5", "5", "5", "", "1", "", "1 2 3 5"}},
		{"co 0 co1 table2; table 0 co1 table2", "2 2", []string{"1 2", "1 2"}},
	} {
		g := graphOf(x.g)
		if l := into(t, g); !slices.Equal(l, numbers(x.into)) {
			t.Errorf("Into of %q: %v, not %s", x.g, l, x.into)
		}
		for i, want := range x.holders {
			if l := holders(t, g, i+1); !slices.Equal(l, numbers(want)) {
				t.Errorf("Holders(%q, %d): %v, not %s", x.g, i+1, l, want)
			}
		}
	}
}

// Counts, marks and texts say nothing of what is held.
func TestIntoAsksSlotsAlone(t *testing.T) {
	for _, count := range []int{0, 1, 5, most} {
		for _, mark := range []int{-1, 0, 9} {
			g := graphOf("str 0; table 0 str1 table2; -; cell 0 str1")
			for i := range g.Objs {
				if g.Objs[i].Kind != 0 {
					g.Objs[i].Count, g.Objs[i].Mark = count, mark
				}
			}
			g.Objs[0].Text = "table2"
			if l := into(t, g); !slices.Equal(l, numbers("2 1 0 0")) {
				t.Error(l)
			}
			if l := holders(t, g, 1); !slices.Equal(l, numbers("2 4")) {
				t.Error(l)
			}
		}
	}
}

// far are numbers of no object of a small graph; some would be one's, if they were cut to fewer bits, or counted from 0 or from the end.
var far = []int{0, -1, -2, -3, 4, 5, 6, 100, 256, 257, 1<<16 + 1, 1<<31 - 1, 1 << 31, 1 << 32, 1<<32 + 1, 1<<32 + 2, -1 << 31, least, least + 1, most}

func TestHoldersOfNone(t *testing.T) {
	for _, text := range []string{"", "-", "-; -; -", "table 1 table1 table2 0; table 1 5 6 -1; str 0", "table 0 nil 0 -1; -; cell 1 nil cell3 4"} {
		g := graphOf(text)
		for _, n := range far {
			if l := holders(t, g, n); len(l) != 0 {
				t.Errorf("Holders(%q, %d): %v", text, n, l)
			}
		}
	}
	if l := holders(t, graphOf("table 0 nil 2 false; -; cell 1 nil cell3"), 2); len(l) != 0 {
		t.Errorf("of one that is none: %v", l)
	}
}

// P10.3

func TestExact(t *testing.T) {
	for _, x := range []struct{ g, more, want string }{
		{"", "", ""},
		{"", "table1 5", ""},
		{"-; -", "", ""},
		{"-; -", "table1 table1 str2 table3", ""},
		{"table 0", "", ""},
		{"table 1", "", "1"},
		{"table 1", "table1", ""},
		{"table 0", "table1", "1"},
		{"table 3", "table1 table1 table1", ""},
		{"table 2", "table1 table1 table1", "1"},
		{"table 4", "table1 table1 table1", "1"},
		{"table 9223372036854775807", "", "1"},
		// slots alone
		{"table 1 table1", "", ""},
		{"table 1 table1", "table1", "1"},
		{"table 2 table1", "table1", ""},
		{"table 0 table1", "", "1"},
		{"table 2 table1", "", "1"},
		{"str 5; table 0 str1 str1; -; cell 0 str1; co 0; func 0 str1 nil str1 cell4", "", "4"},
		{"str 5; table 0 str1 str1; -; cell 1 str1; co 0; func 0 str1 nil str1 cell4", "", ""},
		{"str 3; table 0 str1 str1; -; cell 2 str1; co 1; func 9 str1 nil str1 cell4", "", "1 4 5 6"},
		// slots, and more
		{"str 2; table 1 str1 table2; cell 1 str1", "cell3", ""},
		{"str 2; table 1 str1 table2; cell 1 str1", "", "3"},
		{"str 2; table 1 str1 table2; cell 0 str1", "str1 table2", "1 2"},
		{"str 3; table 2 str1 table2; cell 0 str1", "table2 str1", ""},
		{"str 4; table 2 str1 table2; cell 0 str1", "str1 table2 str1", ""},
		{"str 4; table 2 str1 table2; cell 0 str1", "str1 table2", "1"},
		// under a kind that is not its own
		{"str 1; table 1; func 1; co 1; cell 1", "cell1 co2 table3 str4 func5", ""},
		{"str 5", "str1 table1 func1 co1 cell1", ""},
		{"table 1; -; co 0", "func1 str2 cell2 str3", "3"},
		// what is no object's
		{"table 0; co 0; str 0", "1 2 3 nil false true out error none -1 0", ""},
		{"table 1; co 0; str 0", "1 2 3 nil table1 true out error none -1 0", ""},
		// one that is none, one past the last one
		{"table 0; -; str 0", "table2 str2 table4 str4 table2147483647", ""},
		{"table 0; -; str 0", "table2 str3 str4", "3"},
	} {
		g := graphOf(x.g)
		if l := exact(t, g, values(x.more)); !slices.Equal(l, numbers(x.want)) {
			t.Errorf("Exact(%q, %s): %v, not %s", x.g, x.more, l, x.want)
		}
	}
}

// Values that may not be are no objects', in more.
func TestExactOfWrongMore(t *testing.T) {
	g := graphOf("str 1; table 1 str1 table2; co 0")
	for _, v := range wrong() {
		if l := exact(t, g, []api.Value{v}); len(l) != 0 {
			t.Errorf("%v: %v", v, l)
		}
		if l := exact(t, g, []api.Value{v, value("co3"), v, v, value("table2"), v}); !slices.Equal(l, numbers("2 3")) {
			t.Errorf("among others, %v: %v", v, l)
		}
	}
}

// Marks and texts do not count.
func TestExactOfMarks(t *testing.T) {
	for _, mark := range []int{-1, 0, 1, 7} {
		g := graphOf("str 1; table 1 str1 table2; co 0")
		for i := range g.Objs {
			g.Objs[i].Mark = mark
		}
		g.Objs[0].Text = "co3"
		if l := exact(t, g, nil); len(l) != 0 {
			t.Errorf("%d: %v", mark, l)
		}
	}
}

// P10.4, P10.5: see model_test.go.

// Many objects: a chain in which each holds the next one and the last one the first, one that all hold, and one that holds all.
func TestManyObjects(t *testing.T) {
	const many = 30000
	g := api.Graph{Objs: make([]api.Obj, many+2)}
	all := &g.Objs[many+1]
	for i := range many {
		next := api.Value{Kind: api.KindTable, N: int64((i+1)%many + 1)}
		g.Objs[i] = api.Obj{Kind: api.KindTable, Count: 2, Slots: append(values("nil cell30001 7"), next)}
		all.Slots = append(all.Slots, next)
	}
	g.Objs[many] = api.Obj{Kind: api.KindCell, Count: many}
	all.Kind = api.KindFunc
	if !check(t, g) || len(exact(t, g, nil)) != 0 {
		t.Fatal(Check(g), len(Exact(g, nil)))
	}
	l := into(t, g)
	if len(l) != many+2 || l[many] != many || l[many+1] != 0 || slices.ContainsFunc(l[:many], func(n int) bool { return n != 2 }) {
		t.Error(len(l), l[many:])
	}
	if l := holders(t, g, many+1); len(l) != many || !slices.IsSorted(l) || l[0] != 1 || l[many-1] != many {
		t.Error(len(l))
	}
	if l := holders(t, g, 777); !slices.Equal(l, []int{776, many + 2}) {
		t.Error(l)
	}
	g.Objs[776].Count = most
	if l := exact(t, g, all.Slots); len(l) != many || slices.Contains(l, many+1) {
		t.Error(len(l))
	}
}

// The chapter's examples.

func TestExamples(t *testing.T) {
	g := graphOf("str 2; table 1 str1 table2 7; -; cell 0 str1")
	if !check(t, g) || !slices.Equal(into(t, g), numbers("2 1 0 0")) || len(exact(t, g, nil)) != 0 {
		t.Error(check(t, g), into(t, g), exact(t, g, nil))
	}
	if l := exact(t, g, values("cell4 str1 5")); !slices.Equal(l, numbers("1 4")) {
		t.Error(l)
	}
	for n, want := range map[int]string{1: "2 4", 2: "2", 3: ""} {
		if l := holders(t, g, n); !slices.Equal(l, numbers(want)) {
			t.Errorf("%d: %v", n, l)
		}
	}
	for _, text := range []string{
		"str 2; table 1 table1 table2 7; -; cell 0 str1",
		"str 2; table 1 cell3 table2 7; -; cell 0 str1",
		"str 2; table 1 none table2 7; -; cell 0 str1",
		"str 2 nil; table 1 str1 table2 7; -; cell 0 str1",
	} {
		if check(t, graphOf(text)) {
			t.Errorf("%q may be", text)
		}
	}
}
