package pool

import (
	"slices"
	"testing"
)

// The chapter once more, from its words: the numbers that are taken, in no order, each asked for one by one.
type model struct{ taken []int }

func (m *model) in(n int) bool { return slices.Contains(m.taken, n) }

func (m *model) take() int {
	n := 1
	for m.in(n) {
		n++
	}
	m.taken = append(m.taken, n)
	return n
}

func (m *model) give(n int) bool {
	is := m.in(n)
	m.taken = slices.DeleteFunc(m.taken, func(x int) bool { return x == n })
	return is
}

func (m *model) last() int {
	if len(m.taken) == 0 {
		return 0
	}
	return slices.Max(m.taken)
}

func (m *model) copied() *model { return &model{slices.Clone(m.taken)} }

// pair is a pool and what it must be like.
type pair struct {
	p *Pool
	m *model
}

func newPair() pair { return pair{New(), &model{}} }

func (x pair) copied() pair { return pair{x.p.Copy(), x.m.copied()} }

func (x pair) take(t *testing.T) {
	t.Helper()
	if n, want := x.p.Take(), x.m.take(); n != want {
		t.Fatalf("Take: %d, not %d", n, want)
	}
}

func (x pair) give(t *testing.T, n int) {
	t.Helper()
	if is, want := x.p.Give(n), x.m.give(n); is != want {
		t.Fatalf("Give(%d): %t", n, is)
	}
}

func (x pair) check(t *testing.T) {
	t.Helper()
	if x.p.Len() != len(x.m.taken) || x.p.Last() != x.m.last() {
		t.Fatalf("Len %d, Last %d; taken are %v", x.p.Len(), x.p.Last(), x.m.taken)
	}
	for n := -1; n <= x.m.last()+2; n++ {
		if x.p.In(n) != x.m.in(n) {
			t.Fatalf("In(%d): %t; taken are %v", n, x.p.In(n), x.m.taken)
		}
	}
}

// All ways of 12 steps: to take one, or to give back one of those that are taken; and at each point all that are refused.
func TestAllShortWays(t *testing.T) {
	var on func(x pair, steps int)
	on = func(x pair, steps int) {
		x.check(t)
		if steps == 0 {
			return
		}
		y := x.copied()
		y.take(t)
		on(y, steps-1)
		for n := -1; n <= x.m.last()+2; n++ {
			if is := x.m.in(n); is {
				y = x.copied()
				y.give(t, n)
				on(y, steps-1)
			} else {
				x.give(t, n)
			}
		}
		x.check(t)
	}
	on(newPair(), 12)
}

// draws answers a source of numbers below what it is asked, the same in each run.
func draws() func(below int) int {
	bits := uint64(88172645463325252)
	return func(below int) int {
		bits ^= bits << 13
		bits ^= bits >> 7
		bits ^= bits << 17
		return int(bits % uint64(below))
	}
}

// Some pools, of which now one and now another is used or copied; they fill and empty by turns.
func TestDrawnWays(t *testing.T) {
	draw := draws()
	pools := []pair{newPair(), newPair(), newPair()}
	for step := range 60000 {
		x := pools[draw(len(pools))]
		switch filling := 3 + 4*(step/500%2); {
		case draw(400) == 0:
			pools[draw(len(pools))] = x.copied()
		case draw(10) < filling:
			x.take(t)
		case draw(3) == 0:
			x.give(t, draw(x.m.last()+4)-1)
		case len(x.m.taken) > 0:
			x.give(t, x.m.taken[draw(len(x.m.taken))])
		}
		if step%10 == 0 {
			x.check(t)
		}
	}
}

// P8.3

func TestNeverTwice(t *testing.T) {
	draw := draws()
	p := New()
	var held []int
	for step := range 100000 {
		if filling := 2 + 2*(step/5000%2); draw(5) < filling {
			n := p.Take()
			if n < 1 || n > len(held)+1 || slices.Contains(held, n) {
				t.Fatalf("%d is handed out while %d are taken", n, len(held))
			}
			held = append(held, n)
		} else if len(held) > 0 {
			i := draw(len(held))
			if !p.Give(held[i]) {
				t.Fatal(held[i])
			}
			held[i] = held[len(held)-1]
			held = held[:len(held)-1]
		}
		if p.Len() != len(held) {
			t.Fatal(p.Len(), len(held))
		}
	}
}
