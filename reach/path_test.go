package reach

import (
	"slices"
	"testing"

	"tallow/api"
)

// P11.2

func TestPath(t *testing.T) {
	for _, x := range []struct {
		g    string
		root string
		to   int
		want string
	}{
		// from an object to itself: it alone, whether it holds itself or not
		{"table", "1", 1, "1"},
		{"str", "1", 1, "1"},
		{"table 1", "1", 1, "1"},
		{"table 2; table 1", "1", 1, "1"},
		{"table 2; table 1 2", "2", 2, "2"},
		{"-; cell nil", "2", 2, "2"},
		// one way
		{"table 2; str", "1", 2, "1 2"},
		{"str; table 1", "2", 1, "2 1"},
		{"table nil int2 2 int3; str; str", "1", 2, "1 2"},
		{"table 1 2; table 2 3; table 3", "1", 3, "1 2 3"},
		{"table 2; func 3; co 4; cell 5; str", "1", 5, "1 2 3 4 5"},
		{"table 2; func 3; co 4; cell 5; str", "2", 4, "2 3 4"},
		{"str; table 1; func 2; co 3; cell 4", "5", 1, "5 4 3 2 1"},
		{"co 4; table 5; str; func 2; cell 3", "1", 3, "1 4 2 5 3"},
		{"-; table 3; func 5; -; cell 2", "2", 5, "2 3 5"},
		// rings
		{"table 2; table 1", "2", 1, "2 1"},
		{"table 2; func 3; cell 1", "1", 3, "1 2 3"},
		{"table 2; func 3; cell 1", "3", 2, "3 1 2"},
		{"table 3; func 1; cell 2", "1", 2, "1 3 2"},
		{"table 2; func 1 3; cell 4; co 3 5; str", "2", 5, "2 3 4 5"},
		// no way
		{"table; table", "1", 2, ""},
		{"table 2; str", "2", 1, ""},
		{"table 2; func 1 3; cell 4; co 3", "3", 1, ""},
		{"table 1; table 2", "1", 2, ""},
		{"table 3; table 3; str", "1", 2, ""},
		{"table 3; table 3; str", "3", 2, ""},
		{"table 2; -; table 1", "1", 3, ""},
		// the shorter way, be its numbers greater or the slot behind others
		{"table 2 5; table 3; table 5; table; str", "1", 5, "1 5"},
		{"table 2 4; table 3; table 5; table 5; str", "1", 5, "1 4 5"},
		{"table 4 2; table 3; table 5; table 5; str", "1", 5, "1 4 5"},
		{"table 2 6; table 3; table 4; table 5; table; table 7; table 5", "1", 5, "1 6 7 5"},
		{"table 2 6; table 3; table 4; table 7; table; table 7; table 5", "1", 5, "1 6 7 5"},
		{"table 2 3; table 1 2; table 4; table 5 1; str", "1", 5, "1 3 4 5"},
		// a way that goes on with lesser numbers and leads nowhere, or back
		{"table 2 3; table; table 4; str", "1", 4, "1 3 4"},
		{"table 2 3; table 1; table 4; str", "1", 4, "1 3 4"},
		{"table 2 3; table 2 5; table 4; str; table", "1", 4, "1 3 4"},
		{"table 5 4; table 5; table 1; table 2; table 5 4 6; table 3", "1", 3, "1 5 6 3"},
	} {
		g := graphOf(x.g)
		if l := path(t, g, value(g, x.root), x.to); !slices.Equal(l, numbers(x.want)) {
			t.Errorf("Path(%q, %s, %d): %v, not %s", x.g, x.root, x.to, l, x.want)
		}
	}
}

// Among ways that are as short as each other: the first number that is not alike.
func TestLeastOfPaths(t *testing.T) {
	for _, x := range []struct {
		g    string
		to   int
		want string
	}{
		// right behind the root, in each order of the slots
		{"table 2 3; table 4; table 4; str", 4, "1 2 4"},
		{"table 3 2; table 4; table 4; str", 4, "1 2 4"},
		{"table 3 2 3; table 4 4; table 4; str", 4, "1 2 4"},
		{"table 4 3; str; table 2; table 2", 2, "1 3 2"},
		{"table 6 5 4 3; str; table 2; table 2; table 2; table 2", 2, "1 3 2"},
		{"table 3 6 4 5; str; table 2; table 2; table 2; table 2", 2, "1 3 2"},
		// ahead of the end
		{"table 5; str; table 2; table 2; table 4 3", 2, "1 5 3 2"},
		{"table 5; str; table 2; table 2; table 3 4", 2, "1 5 3 2"},
		// in the middle
		{"table 2; table 5 4 3; table 6; table 6; table 6; table 7; str", 7, "1 2 3 6 7"},
		{"table 2; table 4 5 3; table; table 6; table 6; table 7; str", 7, "1 2 4 6 7"},
		// the first counts, not one behind it: 2 goes on by 5, 3 by 4
		{"table 2 3; table 5; table 4; table 6; table 6; str", 6, "1 2 5 6"},
		{"table 3 2; table 5; table 4; table 6; table 6; str", 6, "1 2 5 6"},
		{"table 2 3; table 7; table 4; table 6; str; table 5; table 8; table 5", 5, "1 2 7 8 5"},
		{"table 3 2; table 8; table 4; table 5; table 6; str; -; table 9; table 6", 6, "1 2 8 9 6"},
		// twice a choice, once between the first ones alone
		{"table 2 3; table 4 5; table 4 5; table 6; table 6; str", 6, "1 2 4 6"},
		{"table 3 2; table 5; table 5 4; table 6; table 6; str", 6, "1 2 5 6"},
		{"table 2 3; table 6; table 5 4; table 7; table 7; table 7; str", 7, "1 2 6 7"},
		// by all ways the same object, then a choice
		{"table 4 3; str; table 5; table 5; table 7 6; table 2; table 2", 2, "1 3 5 6 2"},
		// the lesser one is not as near
		{"table 2 3 4; table 3; table 5; table 5; str", 5, "1 3 5"},
		{"table 4 2 3; table 1 6; table 2; table 5; str; table 5", 5, "1 4 5"},
	} {
		g := graphOf(x.g)
		if l := path(t, g, value(g, "1"), x.to); !slices.Equal(l, numbers(x.want)) {
			t.Errorf("Path(%q, 1, %d): %v, not %s", x.g, x.to, l, x.want)
		}
	}
}

// Ends that are no object, with roots that are one, and that are none.
func TestPathToNone(t *testing.T) {
	for _, text := range []string{"", "-", "table 2 4; func 1 4; -; str; cell 5", "-; -; -; -; co 5"} {
		g := graphOf(text)
		ends := slices.Clone(far)
		for i, o := range g.Objs {
			if o.Kind == 0 {
				ends = append(ends, i+1)
			}
		}
		for _, to := range ends {
			if 1 <= to && to <= len(g.Objs) && g.Objs[to-1].Kind != 0 {
				t.Fatal(to)
			}
			for n := -1; n <= len(g.Objs)+1; n++ {
				for _, kind := range []int{api.KindInt, api.KindTable, api.KindCell} {
					if l := path(t, g, api.Value{Kind: kind, N: int64(n)}, to); len(l) != 0 {
						t.Errorf("Path(%q, %d, %d): %v", text, n, to, l)
					}
				}
			}
			if l := path(t, g, api.Value{Kind: api.KindTable, N: int64(to)}, to); len(l) != 0 {
				t.Errorf("%q: from %d to itself: %v", text, to, l)
			}
		}
	}
}
