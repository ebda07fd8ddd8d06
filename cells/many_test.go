package cells

import (
	"slices"
	"testing"

	"tallow/api"
)

const many = 100003

// orders are orders in which many things are gone through: from either end, by leaps, from the middle.
var orders = []func(i int) int{
	func(i int) int { return i },
	func(i int) int { return many - 1 - i },
	func(i int) int { return i * 2 % many },
	func(i int) int { return i * 7919 % many },
	func(i int) int { return (i + many/2) % many },
}

// upTo answers the numbers from 1 to many.
func upTo() []int {
	l := make([]int, many)
	for i := range l {
		l[i] = i + 1
	}
	return l
}

func equal(t *testing.T, what string, got, want []int) {
	t.Helper()
	if !slices.Equal(got, want) {
		t.Fatalf("%s: %d, not %d: %v.., not %v..", what, len(got), len(want), got[:min(9, len(got))], want[:min(9, len(want))])
	}
}

// Many suspects leave the buffer in each order, half of them first; then all are freed, and made again.
func TestManySuspects(t *testing.T) {
	h := New()
	for _, place := range orders {
		for i := range many {
			if v := h.Make(api.KindTable, ""); v != table(int64(i)+1) {
				t.Fatal(v)
			}
			h.Keep(table(int64(i) + 1))
			h.Drop(table(int64(i) + 1))
		}
		equal(t, "all", h.Buffer(), upTo())
		var gone []int
		isGone := make([]bool, many+1)
		for i := range many {
			if i == many/2 {
				equal(t, "half", h.Buffer(), slices.DeleteFunc(upTo(), func(n int) bool { return isGone[n] }))
			}
			n := place(i) + 1
			if h.Drop(table(int64(n))) != api.OK {
				t.Fatal(n)
			}
			gone = append(gone, n)
			isGone[n] = true
		}
		equal(t, "Buffer", h.Buffer(), nil)
		equal(t, "Queue", h.Queue(), gone)
		for _, n := range gone {
			if h.Free(n) != api.OK {
				t.Fatal(n)
			}
		}
		equal(t, "Queue", h.Queue(), nil)
	}
}

// Many finalisers, while many others wait to be freed.
func TestManyFins(t *testing.T) {
	for _, place := range orders {
		h := New()
		for i := range many {
			v := h.Make(api.KindTable, "")
			h.Drop(v)
			if h.Mark(int(v.N)) != i+1 {
				t.Fatal(v)
			}
		}
		var order []int
		for i := range many {
			n := place(i) + 1
			if h.Fin(n) != api.OK {
				t.Fatal(n)
			}
			order = append(order, n)
		}
		equal(t, "Queue", h.Queue(), nil)
		equal(t, "Fins", h.Fins(), order)
		for _, n := range order {
			if v, mark, ok := h.NextFin(); v != table(int64(n)) || mark != n || !ok {
				t.Fatal(n, v, mark, ok)
			}
		}
		noFin(t, h)
	}
}

func TestManySlots(t *testing.T) {
	h := tables(t, 1)
	for i := range many {
		if h.Push(1, number(int64(i))) != api.OK {
			t.Fatal(i)
		}
	}
	for i := range many {
		if was, e := h.Swap(1, i, number(int64(-i))); was != number(int64(i)) || e != api.OK {
			t.Fatal(i, was, e)
		}
	}
	s := h.Obj(1).Slots
	for i := many - 1; i >= 0; i-- {
		if v, e := h.Pop(1); v != number(int64(-i)) || v != s[i] || e != api.OK {
			t.Fatal(i, v, e)
		}
	}
	must(t, h.Lay(1, s), api.OK)
	if !slices.Equal(h.Obj(1).Slots, s) {
		t.Error("Lay")
	}
}

// One more is watched each time, as a search does that goes on.
func TestWatchGrows(t *testing.T) {
	const steps = 20000
	h := tables(t, steps+1)
	var l []int
	for n := 1; n <= steps; n++ {
		l = append(l, n)
		h.Watch(l)
		if h.Touched() {
			t.Fatal(n)
		}
		must(t, h.Keep(table(int64(n)+1)), api.OK)
		if h.Touched() {
			t.Fatalf("%d is watched, behind %d", n+1, n)
		}
		must(t, h.Keep(table(int64(n+1)/2)), api.OK)
		if !h.Touched() {
			t.Fatalf("%d is not watched, behind %d", (n+1)/2, n)
		}
	}
}

// The texts of strings as long as they may be.
func TestManyStrings(t *testing.T) {
	h := New()
	for n := range 2000 {
		text := long(api.MaxStr-n) + string(rune('a'+n%26))
		if n == 0 {
			text = text[1:]
		}
		if v := h.Make(api.KindStr, text); v != str(int64(n)+1) || h.Obj(n+1).Text != text {
			t.Fatal(n)
		}
	}
}

// One stays in the buffer, and many others come and go behind it: what it has to go through stays short.
func TestBufferStaysShort(t *testing.T) {
	h := tables(t, 4)
	must(t, h.Suspect(2), api.OK)
	for range many {
		for _, n := range []int64{1, 3, 4} {
			h.Keep(table(n))
			h.Drop(table(n))
		}
		for n := range 3 {
			v := []api.Value{table(3), table(1), table(4)}[n]
			h.Drop(v)
			if h.Free(int(v.N)) != api.OK || h.Make(api.KindTable, "") != v {
				t.Fatal(v)
			}
		}
	}
	lists(t, h, nil, []int{2}, nil)
	if n := cap(h.own.buffer.items); n > 50 {
		t.Errorf("room for %d", n)
	}
}
