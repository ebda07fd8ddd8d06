package trial

import (
	"slices"
	"testing"

	"tallow/api"
)

// far are numbers of no object of a small graph; some would be one's, if they were cut to fewer bits, or counted from 0 or from the end.
var far = []int{0, -1, -2, -3, 8, 9, 100, 256, 257, 1<<16 + 1, 1<<31 - 1, 1 << 31, 1 << 32, 1<<32 + 1, 1<<32 + 2, -1 << 31, least, least + 1, most}

// mixed is a graph of all kinds, with numbers that are free; no two are alike there.
const mixed = "table 2 5 7; func 4; -; co 7 2; str; -; cell 5 1"

// P12.1

func TestSeen(t *testing.T) {
	for _, x := range []struct{ g, cands, want string }{
		// no objects, no suspects
		{"", "", ""},
		{"", "1 0 2", ""},
		{"-; -", "2 1 3", ""},
		{"table; table 1", "", ""},
		// suspects in the order in which they are told, each once
		{"table; table; table", "1 2 3", "1 2 3"},
		{"table; table; table", "3 1 2", "3 1 2"},
		{"table; table; table", "2 2 2", "2"},
		{"table; table; table", "3 1 3 1 2 3", "3 1 2"},
		{"table; -; table", "0 3 2 -1 1 4 99", "3 1"},
		// suspects go ahead of what is held
		{"table 3; table; table", "1 2", "1 2 3"},
		{"table 2; table 3; table", "1 3", "1 3 2"},
		{"table 2; table 3; table 1", "3 1", "3 1 2"},
		// what is held, slot by slot, each once
		{"table 3 2; table; table", "1", "1 3 2"},
		{"table 2 3; table; table", "1", "1 2 3"},
		{"table 3 2 3 2 2; table; table", "1", "1 3 2"},
		{"table nil 4 int2 3 lib1 2; table; table; table", "1", "1 4 3 2"},
		{"table; table 1; table 2; table 3", "4", "4 3 2 1"},
		// one after the other: what the first one holds goes ahead of what that holds in turn
		{"table 2 3; table 4; table 5; table; table", "1", "1 2 3 4 5"},
		{"table 3 2; table 4; table 5; table; table", "1", "1 3 2 5 4"},
		{"table 2 3; table 4 5; table 6; table 7; table; table; table", "1", "1 2 3 4 5 6 7"},
		{"table 3; table 4; table; table", "2 1", "2 1 4 3"},
		{"table 4; table 3; table; table 3", "2 1", "2 1 3 4"},
		// what is held by several is seen with the first one
		{"table 3; table 3; table", "1 2", "1 2 3"},
		{"table 4 3; table 3 4; table; table", "2 1", "2 1 3 4"},
		// rings, and what holds itself
		{"table 1", "1", "1"},
		{"table 1 2 1; table 2 1", "2", "2 1"},
		{"table 2; table 3; table 1", "2", "2 3 1"},
		{"table 2; table 1 3; table 4; table 3", "4", "4 3"},
		// strings are no suspects, and are not seen
		{"str; table", "1", ""},
		{"str; table", "1 2", "2"},
		{"table 3 2 3; table 3; str", "1 3", "1 2"},
		{"str; str; cell 1 2", "2 3 1", "3"},
		// all kinds
		{mixed, "1", "1 2 7 4"},
		{mixed, "7 4", "7 4 1 2"},
		{mixed, "5 3 6 2", "2 4 7 1"},
	} {
		g := graphOf(x.g)
		if l := seenOf(t, g, numbers(x.cands)); !slices.Equal(l, numbers(x.want)) {
			t.Errorf("Seen(%s, %s): %v", x.g, x.cands, l)
		}
	}
}

func TestWhite(t *testing.T) {
	for _, x := range []struct{ g, cands, want string }{
		{"", "1", ""},
		{"table", "", ""},
		// alone: held by nobody, by somebody's hand, by itself
		{"table", "1", "1"},
		{"table+1", "1", ""},
		{"table 1", "1", "1"},
		{"table 1 1 1", "1", "1"},
		{"table+1 1", "1", ""},
		// a Count may be less than it ought to be
		{"table=0 1", "1", "1"},
		{"table=1 1 1", "1", "1"},
		{"table=0 2; table+1 1", "1", ""},
		{"table=9223372036854775807 1", "1", ""},
		// held by what was not seen
		{"table; table 1", "1", ""},
		{"table; table 1", "2", "1 2"},
		{"table; table 1", "1 2", "1 2"},
		{"table; table 1; table 1", "2", "2"},
		{"table; table 1; table 1", "2 3", "1 2 3"},
		{"table; table 1 1; table 1", "3 2", "1 2 3"},
		// rings
		{"table 2; table 1", "1", "1 2"},
		{"table 2; table 1", "2", "1 2"},
		{"table+1 2; table 1", "2", ""},
		{"table 2; table+1 1", "2", ""},
		{"table 2; table 3; table 1; table 3", "2", ""},
		{"table 2; table 3; table 1; table 3", "4", "1 2 3 4"},
		// what a ring holds, what holds a ring
		{"table 2; table 1 3; table", "1", "1 2 3"},
		{"table 2; table 1 3; table+1", "1", "1 2"},
		{"table 2; table 1 3; table", "3", ""},
		{"table 2; table 1; table 2", "1", ""},
		{"table 2; table 1; table+1 2", "3", ""},
		{"table 2; table 1; table+1 2", "3 1", ""},
		// reached from who is held from outside, however far; ahead and behind in the order
		{"table+1 2; table 3; table 4; table", "1", ""},
		{"table+1 2; table 3; table 4; table", "4 3 2 1", ""},
		{"table 2; table 3; table+1 4; table", "1", "1 2"},
		{"table; table 1; table+1 2; table 3", "4", "4"},
		{"table; table 1; table+1 2; table 3", "1 4", "4"},
		// reached in one way, though not in another one
		{"table 3; table+1 3; table", "1 2", "1"},
		{"table 2 3; table+1 4; table 4; table 5; table", "1", "1 3"},
		// rising, in whatever order they are seen
		{"table 4; table 1; table 2; table 3", "3", "1 2 3 4"},
		{"table; table; table; table", "4 2 3 1 2", "1 2 3 4"},
		{"table; table+1; table; table", "4 2 3 1", "1 3 4"},
		// strings: none is white, none keeps anything, they are held by whom one likes
		{"str", "1", ""},
		{"str+5; table 1", "2 1", "2"},
		{"table 3; table+1 3; str", "1", "1"},
		{"table 3; table+1 3; str", "1 2", "1"},
		// all kinds
		{mixed, "1", "1 2 4 7"},
		{mixed, "2", "1 2 4 7"},
		{"table 2 5 7; func+1 4; -; co 7 2; str; -; cell 5 1", "1", ""},
		{"table 2 5 7; func 4; -; co 2; str; -; cell+1 5", "1", "1 2 4"},
	} {
		g := graphOf(x.g)
		if l := whiteOf(t, g, numbers(x.cands)); !slices.Equal(l, numbers(x.want)) {
			t.Errorf("White(%s, %s): %v", x.g, x.cands, l)
		}
	}
}

// Suspects of no object count for nothing, alone and among others.
func TestSuspectsOfNone(t *testing.T) {
	for _, text := range []string{"", "-", mixed, "table 1; table 2; table; -; -; -; str", "-; -; -; -; co 5"} {
		g := graphOf(text)
		nobody := slices.Clone(far)
		for i, o := range g.Objs {
			if o.Kind == 0 || o.Kind == api.KindStr {
				nobody = append(nobody, i+1)
			}
		}
		for _, n := range nobody {
			if l, w := seenOf(t, g, []int{n, n}), whiteOf(t, g, []int{n}); len(l)+len(w) != 0 {
				t.Errorf("%s, %d: %v, %v", text, n, l, w)
			}
			for i := range g.Objs {
				m := i + 1
				if l := seenOf(t, g, []int{n, m, n, n}); !slices.Equal(l, Seen(g, []int{m})) {
					t.Errorf("%s, %d %d: %v", text, n, m, l)
				}
				if l := whiteOf(t, g, []int{m, n, n}); !slices.Equal(l, White(g, []int{m})) {
					t.Errorf("%s, %d %d: %v", text, m, n, l)
				}
			}
		}
	}
}

// P12.2

func TestGone(t *testing.T) {
	for _, x := range []struct{ g, white, gone, marked string }{
		{"", "1 0", "", ""},
		{"table; table", "", "", ""},
		// nobody is marked: rising, each once
		{"table 2; table 1", "1 2", "1 2", ""},
		{"table 2; table 1", "2 1 1 2 2", "1 2", ""},
		{"table; table; table", "3 1", "1 3", ""},
		// Counts say nothing
		{"table+5 1; table=0 1", "2 1", "1 2", ""},
		// marked ones, and what these keep
		{"table!1", "1", "", "1"},
		{"table!1 2; table 1", "1 2", "", "1"},
		{"table!1 2; table; table", "1 2 3", "3", "1"},
		{"table 2; table!1 3; table", "3 2 1", "1", "2"},
		{"table!7 2; table 3; table 4; table 1; table 1", "5 4 3 2 1", "5", "1"},
		// Marks of 0 and -1 are none
		{"table!-1 2; table!0 1", "1 2", "1 2", ""},
		{"table!-1 2; table!1 3; table", "1 2 3", "1", "2"},
		// what is marked, but not white
		{"table!3 2; table", "2", "2", ""},
		{"table!3 2; table; table!1", "2 3", "2", "3"},
		// a way that goes over what is not white
		{"table!1 2; table 3; table", "1 3", "3", "1"},
		{"table!1 2; str; table", "1 2 3", "3", "1"},
		// what is reached, but not white, is not gone
		{"table!1 2; table; table", "1 3", "3", "1"},
		// the greatest Mark first, of two alike the lesser number
		{"table!1; table!2; table!3", "1 2 3", "", "3 2 1"},
		{"table!3; table!2; table!1", "3 2 1", "", "1 2 3"},
		{"table!2; table!9; table!2; table!9", "4 3 2 1 3 4", "", "2 4 1 3"},
		{"table!5; table!5; table!5", "3 1 2", "", "1 2 3"},
		{"table!9223372036854775807; table!1; table!9223372036854775806", "1 2 3", "", "1 3 2"},
		{"table!10; table!9; table!100", "1 2 3", "", "3 1 2"},
		// a marked one that another marked one keeps is marked all the same
		{"table!1 2; table!2 3; table", "1 2 3", "", "2 1"},
		{"table!2 2; table!1 1", "2 1", "", "1 2"},
		// strings, marked or not, count for nothing
		{"str; table 1", "1 2", "2", ""},
		{"str!4; table!1 1; str", "1 3 2", "", "2"},
		// all kinds, each of which may have a mark
		{mixed, "1 2 3 4 5 6 7", "1 2 4 7", ""},
		{"table 2 5 7; func 4; -; co!1 7 2; str; -; cell 5", "7 6 5 4 3 2 1", "1", "4"},
		{"table 2; func!1; co!2; cell!3 1", "1 2 3 4", "", "4 3 2"},
	} {
		g := graphOf(x.g)
		gone, marked := goneOf(t, g, numbers(x.white))
		if !slices.Equal(gone, numbers(x.gone)) || !slices.Equal(marked, numbers(x.marked)) {
			t.Errorf("Gone(%s, %s): %v, %v", x.g, x.white, gone, marked)
		}
	}
}

// Numbers of no object, and of strings, count for nothing among the white ones.
func TestWhitesOfNone(t *testing.T) {
	g := graphOf("table!2 2; func 1 4; -; co!5 5; str; table; cell 6")
	gone, marked := goneOf(t, g, numbers("1 4 7"))
	if !slices.Equal(gone, []int{7}) || !slices.Equal(marked, []int{4, 1}) {
		t.Fatal(gone, marked)
	}
	for _, n := range append(slices.Clone(far), 3, 5) {
		if a, b := goneOf(t, g, []int{n, n}); len(a)+len(b) != 0 {
			t.Errorf("%d: %v, %v", n, a, b)
		}
		for _, l := range [][]int{{n, 1, 4, 7}, {1, n, 4, n, 7}, {7, 4, 1, n}} {
			if a, b := goneOf(t, g, l); !slices.Equal(a, gone) || !slices.Equal(b, marked) {
				t.Errorf("%v: %v, %v", l, a, b)
			}
		}
	}
	if a, b := goneOf(t, g, far); len(a)+len(b) != 0 {
		t.Errorf("%v, %v", a, b)
	}
}

// Each kind of object that has slots keeps, and is kept by, each; strings are left out.
func TestEachKindHoldsEach(t *testing.T) {
	for _, holder := range names[api.KindTable:] {
		for _, held := range names[api.KindStr:] {
			want, gone := []int{1, 2}, []int{1, 2}
			if held == "str" {
				want, gone = []int{1}, []int{1}
			}
			g := graphOf(holder + " nil 2 int3; " + held + "; " + holder)
			if l := seenOf(t, g, []int{1}); !slices.Equal(l, want) {
				t.Errorf("%s, %s: seen %v", holder, held, l)
			}
			if l := whiteOf(t, g, []int{1}); !slices.Equal(l, want) {
				t.Errorf("%s, %s: white %v", holder, held, l)
			}
			if a, b := goneOf(t, g, []int{1, 2}); !slices.Equal(a, gone) || len(b) != 0 {
				t.Errorf("%s, %s: gone %v, marked %v", holder, held, a, b)
			}
			g.Objs[0].Count++
			if l := whiteOf(t, g, []int{2, 1}); len(l) != 0 {
				t.Errorf("%s, %s: white %v", holder, held, l)
			}
			g.Objs[0].Mark = 1
			if a, b := goneOf(t, g, []int{1, 2}); len(a) != 0 || !slices.Equal(b, []int{1}) {
				t.Errorf("%s, %s: gone %v, marked %v", holder, held, a, b)
			}
		}
	}
}

// What is no object's value leads nowhere, be its N like an object's number.
func TestValuesOfNoObject(t *testing.T) {
	for _, word := range []string{"nil", "bool0", "bool1", "int0", "int1", "int2", "int3", "int-1", "int4294967298", "int9223372036854775807", "lib0", "lib1", "lib2", "lib3", "lib12"} {
		g := graphOf("table " + word + "; table; func!1 2 " + word + "; cell " + word + " 1")
		for cands, want := range map[string]string{"1": "1", "2": "2", "3": "3 2", "4": "4 1"} {
			if l := seenOf(t, g, numbers(cands)); !slices.Equal(l, numbers(want)) {
				t.Errorf("%s: seen %v", word, l)
			}
		}
		if l := whiteOf(t, g, numbers("1 2 3")); !slices.Equal(l, numbers("2 3")) {
			t.Errorf("%s: white %v", word, l)
		}
		if a, b := goneOf(t, g, numbers("1 2 3 4")); !slices.Equal(a, numbers("1 4")) || !slices.Equal(b, []int{3}) {
			t.Errorf("%s: gone %v, marked %v", word, a, b)
		}
	}
}

// The chapter's examples.
func TestExamples(t *testing.T) {
	g := graphOf("table 2; table 1 3; table; table 4")
	for cands, want := range map[string]string{"2": "2 1 3", "3 1": "3 1 2", "4 4 9 0": "4"} {
		if l := seenOf(t, g, numbers(cands)); !slices.Equal(l, numbers(want)) {
			t.Errorf("Seen of %s: %v", cands, l)
		}
	}
	for cands, want := range map[string]string{"2": "1 2 3", "3": "", "4": "4"} {
		if l := whiteOf(t, g, numbers(cands)); !slices.Equal(l, numbers(want)) {
			t.Errorf("White of %s: %v", cands, l)
		}
	}
	g.Objs[1].Mark = 5
	if gone, marked := goneOf(t, g, numbers("1 2 3 4")); !slices.Equal(gone, []int{4}) || !slices.Equal(marked, []int{2}) {
		t.Errorf("gone %v, marked %v", gone, marked)
	}
	g.Objs[0].Count = 2
	if l := whiteOf(t, g, []int{2}); len(l) != 0 {
		t.Errorf("white %v", l)
	}
}
