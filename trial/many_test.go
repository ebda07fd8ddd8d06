package trial

import (
	"runtime/debug"
	"slices"
	"testing"

	"tallow/api"
)

// tables answers a graph of n tables, with counts that are right; of each holds tells which ones it holds.
func tables(n int, holds func(n int) []int) api.Graph {
	g := api.Graph{Objs: make([]api.Obj, n)}
	for i := range g.Objs {
		g.Objs[i].Kind = api.KindTable
		for _, m := range holds(i + 1) {
			g.Objs[i].Slots = append(g.Objs[i].Slots, api.Value{Kind: api.KindTable, N: int64(m)})
			g.Objs[m-1].Count++
		}
	}
	return g
}

// equal tells less than all of them where long lists are not alike.
func equal(t *testing.T, what string, got, want []int) {
	t.Helper()
	if !slices.Equal(got, want) {
		t.Errorf("%s: %d, not %d: %v.., not %v..", what, len(got), len(want), got[:min(9, len(got))], want[:min(9, len(want))])
	}
}

// Rows and rings of any length; calls within calls must not become as many as a row is long.
func TestRowsAndRings(t *testing.T) {
	defer debug.SetMaxStack(debug.SetMaxStack(1 << 24))
	for _, n := range []int{1, 2, 3, 1000, 65537, 500000} {
		all := count1(n)
		back := slices.Clone(all)
		slices.Reverse(back)
		row := tables(n, func(i int) []int { return all[i:min(i+1, n)] })
		equal(t, "a row from its first one", Seen(row, []int{1}), all)
		equal(t, "a row from its last one", Seen(row, []int{n}), []int{n})
		equal(t, "a row that nobody holds", White(row, []int{1}), all)
		equal(t, "a row from all", White(row, back), all)
		gone, marked := Gone(row, back)
		equal(t, "a row", gone, all)
		equal(t, "marked", marked, nil)
		ring := tables(n, func(i int) []int { return []int{(i+n-2)%n + 1} })
		equal(t, "a ring", Seen(ring, []int{n}), back)
		equal(t, "a ring that nobody holds", White(ring, []int{n}), all)
		ring.Objs[n/2].Mark = 1
		gone, marked = Gone(ring, all)
		equal(t, "a ring that is kept", gone, nil)
		equal(t, "marked", marked, []int{n/2 + 1})
		ring.Objs[0].Count++
		equal(t, "a ring that is held", White(ring, []int{n}), nil)
	}
}

// One holds all, and all hold one; each of them is looked at but once.
func TestWide(t *testing.T) {
	const n = 100000
	all := count1(n)
	g := tables(n, func(i int) []int {
		if i == n {
			return all[:n-1]
		}
		return []int{n, n, n}
	})
	equal(t, "seen", Seen(g, []int{n}), append([]int{n}, all[:n-1]...))
	equal(t, "seen, all suspected", Seen(g, append(slices.Clone(all), all...)), all)
	equal(t, "white", White(g, []int{7}), all)
	for i := range g.Objs {
		g.Objs[i].Mark = 1 + i%2
	}
	gone, marked := Gone(g, slices.Concat(all, all))
	equal(t, "gone", gone, nil)
	even := func(m int) bool { return m%2 == 0 }
	want := append(pick(all, even), slices.DeleteFunc(all, even)...)
	equal(t, "marked", marked, want)
	g.Objs[3].Count++
	equal(t, "white of one that is held", White(g, []int{7}), nil)
}
