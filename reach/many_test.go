package reach

import (
	"runtime/debug"
	"slices"
	"testing"

	"tallow/api"
)

func table(n int) api.Value { return api.Value{Kind: api.KindTable, N: int64(n)} }

// tables answers a graph of n tables; of each holds tells which ones it holds.
func tables(n int, holds func(n int) []int) api.Graph {
	g := api.Graph{Objs: make([]api.Obj, n)}
	for i := range g.Objs {
		g.Objs[i].Kind = api.KindTable
		for _, m := range holds(i + 1) {
			g.Objs[i].Slots = append(g.Objs[i].Slots, table(m))
		}
	}
	return g
}

// row answers n tables each of which holds the next one; by is 1, or -1: then each holds the one ahead of it.
func row(n, by int) api.Graph {
	return tables(n, func(i int) []int {
		if next := i + by; 1 <= next && next <= n {
			return []int{next}
		}
		return nil
	})
}

// count answers the numbers from first to last, which may be less.
func count(first, last int) []int {
	if last < first {
		l := count(last, first)
		slices.Reverse(l)
		return l
	}
	l := make([]int, last-first+1)
	for i := range l {
		l[i] = first + i
	}
	return l
}

// equal tells less than all of them where long lists are not alike.
func equal(t *testing.T, what string, got, want []int) {
	t.Helper()
	if !slices.Equal(got, want) {
		t.Errorf("%s: %d, not %d: %v.., not %v..", what, len(got), len(want), got[:min(9, len(got))], want[:min(9, len(want))])
	}
}

// Rows of any length, from each end of them and from the middle; calls within calls must not become as many as a row is long.
func TestRows(t *testing.T) {
	defer debug.SetMaxStack(debug.SetMaxStack(1 << 24))
	for _, n := range []int{1, 2, 3, 99, 100, 101, 127, 128, 129, 255, 256, 257, 511, 512, 513, 999, 1000, 1001, 1002, 1999, 2000, 2001, 2002, 3001, 4096, 9999, 10001, 200000, 1000000} {
		up, down, middle := row(n, 1), row(n, -1), (n+1)/2
		equal(t, "all", From(up, []api.Value{table(1)}), count(1, n))
		equal(t, "all", From(down, []api.Value{table(n)}), count(1, n))
		equal(t, "from the middle up", From(up, []api.Value{table(middle)}), count(middle, n))
		equal(t, "from the middle down", From(down, []api.Value{table(middle)}), count(1, middle))
		equal(t, "none lost", Lost(up, []api.Value{table(1), table(n)}), nil)
		equal(t, "lost behind the middle", Lost(down, []api.Value{table(middle)}), count(middle+1, n)[:n-middle])
		equal(t, "a way up", Path(up, table(1), n), count(1, n))
		equal(t, "a way down", Path(down, table(n), 1), count(n, 1))
		if n > 1 {
			equal(t, "no way", Path(up, table(n), n-1), nil)
		}
	}
}

// Rings of any length; a way goes nearly round.
func TestRings(t *testing.T) {
	for _, n := range []int{1, 2, 3, 999, 1000, 1001, 2001, 100000} {
		g := tables(n, func(i int) []int { return []int{i%n + 1} })
		equal(t, "all", From(g, []api.Value{table(n)}), count(1, n))
		equal(t, "all lost", Lost(g, nil), count(1, n))
		equal(t, "round", Path(g, table(1), n), count(1, n))
	}
}

// A row that can be come to in its midst as well: each object is looked at but once, be it come to from near or from far.
func TestShortCuts(t *testing.T) {
	const n = 5000
	for _, at := range []int{2, 3, 500, 998, 999, 1000, 1001, 1002, 1003, 2000, 2001, 2002, n - 1, n} {
		for _, first := range [][]int{{2, at}, {at, 2}} {
			g := row(n, 1)
			g.Objs[0].Slots = []api.Value{table(first[0]), table(first[1])}
			equal(t, "all", From(g, []api.Value{table(1)}), count(1, n))
			equal(t, "a way", Path(g, table(1), n), append([]int{1}, count(at, n)...))
			g.Objs[at-1].Slots = nil
			equal(t, "up to there", From(g, []api.Value{table(1)}), count(1, at))
			equal(t, "lost behind it", Lost(g, []api.Value{table(1), table(1)}), count(at, n)[1:])
		}
	}
}

// One holds all, and all hold one.
func TestWide(t *testing.T) {
	const n = 50000
	g := tables(n, func(i int) []int {
		if i == 2 {
			return count(n, 3)
		}
		if i > 2 {
			return []int{1, 1}
		}
		return nil
	})
	equal(t, "all", From(g, []api.Value{table(2)}), count(1, n))
	equal(t, "all", From(g, g.Objs[1].Slots), append([]int{1}, count(3, n)...))
	equal(t, "lost", Lost(g, []api.Value{table(n)}), count(2, n-1))
	equal(t, "a way", Path(g, table(2), 1), []int{2, 3, 1})
}

// Steps of three objects, each of which holds all three of the next one: very many ways that are as short as each other.
func TestVeryManyWays(t *testing.T) {
	const steps = 2000
	g := tables(3*steps, func(i int) []int {
		next := (i+2)/3*3 + 1
		if next > 3*steps {
			return nil
		}
		return []int{next + 2, next, next + 1}
	})
	want := []int{3}
	for step := 1; step < steps-1; step++ {
		want = append(want, 3*step+1)
	}
	want = append(want, 3*steps-1)
	equal(t, "a way", Path(g, table(3), 3*steps-1), want)
	equal(t, "all behind it", From(g, []api.Value{table(3)}), count(3, 3*steps))
}
