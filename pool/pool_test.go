package pool

import (
	"math"
	"slices"
	"testing"
)

// takes wants p to hand out just those numbers, one behind the other.
func takes(t *testing.T, p *Pool, numbers ...int) {
	t.Helper()
	for _, want := range numbers {
		if n := p.Take(); n != want {
			t.Fatalf("Take: %d, not %d", n, want)
		}
	}
}

// gives wants each of those numbers to be given back, once.
func gives(t *testing.T, p *Pool, numbers ...int) {
	t.Helper()
	for _, n := range numbers {
		if !p.Give(n) {
			t.Fatalf("Give(%d): false", n)
		}
	}
	refuses(t, p, numbers...)
}

// refuses wants none of those numbers to be taken.
func refuses(t *testing.T, p *Pool, numbers ...int) {
	t.Helper()
	for _, n := range numbers {
		if p.In(n) || p.Give(n) || p.In(n) {
			t.Fatalf("%d is taken", n)
		}
	}
}

// has wants just those numbers, rising, to be taken.
func has(t *testing.T, p *Pool, numbers ...int) {
	t.Helper()
	last := 0
	for _, n := range numbers {
		last = n
	}
	if p.Len() != len(numbers) || p.Last() != last {
		t.Fatalf("Len %d, Last %d; not %d, %d", p.Len(), p.Last(), len(numbers), last)
	}
	for n := -3; n <= last+9; n++ {
		if p.In(n) != slices.Contains(numbers, n) {
			t.Fatalf("In(%d): %t", n, p.In(n))
		}
	}
}

// upTo answers the numbers from 1 to n.
func upTo(n int) []int {
	var l []int
	for i := range n {
		l = append(l, i+1)
	}
	return l
}

// full answers a pool in which those up to n are taken.
func full(t *testing.T, n int) *Pool {
	t.Helper()
	p := New()
	takes(t, p, upTo(n)...)
	return p
}

// farNumbers are numbers that no pool here comes to.
var farNumbers = []int{0, -1, -2, -100, math.MinInt, math.MinInt + 1, math.MaxInt, math.MaxInt - 1, 1 << 31, 1 << 32, -1 << 31, 1<<32 + 1, 1 << 62}

// The chapter's examples

func TestExamples(t *testing.T) {
	p := New()
	takes(t, p, 1, 2, 3)
	if !p.Give(2) {
		t.Error("Give(2)")
	}
	takes(t, p, 2, 4)
	if p.Give(7) || p.Give(0) || !p.In(1) || p.Last() != 4 || p.Len() != 4 {
		t.Error("behind those")
	}
	if !p.Give(4) || !p.Give(3) || p.Last() != 2 {
		t.Error("Give(4), Give(3)")
	}
	takes(t, p, 3)
}

// P8.1

func TestNewPool(t *testing.T) {
	p := New()
	has(t, p)
	refuses(t, p, farNumbers...)
	refuses(t, p, 1, 2, 3, 1000)
	has(t, p)
	takes(t, p, 1)
	has(t, p, 1)
	q := New()
	has(t, q)
	takes(t, q, 1, 2)
	has(t, p, 1)
}

func TestInLenLast(t *testing.T) {
	p := New()
	for i := range 300 {
		takes(t, p, i+1)
		has(t, p, upTo(i+1)...)
	}
	for n := 300; n > 0; n-- {
		gives(t, p, n)
		has(t, p, upTo(n-1)...)
	}
}

// The greatest one that is taken, when what is free below it goes with it, or does not.
func TestLastFalls(t *testing.T) {
	p := full(t, 9)
	gives(t, p, 8, 6, 7)
	has(t, p, 1, 2, 3, 4, 5, 9)
	gives(t, p, 9)
	has(t, p, 1, 2, 3, 4, 5)
	gives(t, p, 3, 2)
	has(t, p, 1, 4, 5)
	gives(t, p, 5)
	has(t, p, 1, 4)
	gives(t, p, 1)
	has(t, p, 4)
	gives(t, p, 4)
	has(t, p)
	takes(t, p, 1, 2, 3)
	has(t, p, 1, 2, 3)
}

// What only asks changes nothing.
func TestAsking(t *testing.T) {
	p := full(t, 5)
	gives(t, p, 2)
	for range 3 {
		for n := -9; n < 20; n++ {
			p.In(n)
			p.Len()
			p.Last()
			p.Copy()
		}
		has(t, p, 1, 3, 4, 5)
	}
	takes(t, p, 2, 6)
}

// P8.2

// A number is given back at the start, in the middle, at the end, and where one beside it is free already.
func TestGiveOne(t *testing.T) {
	for n := 1; n <= 7; n++ {
		p := full(t, 7)
		gives(t, p, n)
		has(t, p, slices.DeleteFunc(upTo(7), func(m int) bool { return m == n })...)
		takes(t, p, n)
		has(t, p, upTo(7)...)
		takes(t, p, 8)
		for m := 1; m <= 7; m++ {
			if m != n {
				p = full(t, 7)
				gives(t, p, n, m)
				takes(t, p, min(n, m), max(n, m), 8)
			}
		}
	}
}

// In whatever order all of some numbers are given back, the least one comes first.
func TestGiveInEachOrder(t *testing.T) {
	p := full(t, 6)
	orders := 0
	var rest func(left, order []int)
	rest = func(left, order []int) {
		if len(left) == 0 {
			orders++
			gives(t, p, order...)
			has(t, p)
			takes(t, p, 1, 2, 3, 4, 5, 6)
			return
		}
		for i, n := range left {
			rest(slices.Delete(slices.Clone(left), i, i+1), append(slices.Clip(order), n))
		}
	}
	rest(upTo(6), nil)
	if orders != 720 {
		t.Error(orders)
	}
}

// The same, while others are taken in between.
func TestGiveAndTakeInTurns(t *testing.T) {
	p := full(t, 10)
	gives(t, p, 4)
	takes(t, p, 4)
	gives(t, p, 9, 2)
	takes(t, p, 2)
	gives(t, p, 5, 10)
	takes(t, p, 5, 9)
	has(t, p, 1, 2, 3, 4, 5, 6, 7, 8, 9)
	gives(t, p, 1, 3, 2)
	takes(t, p, 1, 2)
	gives(t, p, 2)
	takes(t, p, 2, 3, 10, 11)
	has(t, p, upTo(11)...)
}

func TestGiveTwice(t *testing.T) {
	p := full(t, 3)
	for _, n := range []int{2, 1, 3} {
		if !p.Give(n) || p.Give(n) || p.Give(n) {
			t.Error(n)
		}
	}
	has(t, p)
	// What was refused is not free twice.
	takes(t, p, 1, 2, 3, 4)
	if !p.Give(2) || p.Give(2) {
		t.Error("2")
	}
	takes(t, p, 2)
	if !p.Give(2) || p.Give(2) {
		t.Error("2 again")
	}
	takes(t, p, 2, 5)
}

func TestGiveWrong(t *testing.T) {
	p := full(t, 4)
	gives(t, p, 2)
	refuses(t, p, farNumbers...)
	refuses(t, p, 2, 5, 6, 1000)
	has(t, p, 1, 3, 4)
	takes(t, p, 2, 5, 6)
	refuses(t, p, farNumbers...)
	refuses(t, p, 7)
	has(t, p, upTo(6)...)
}

func TestAllGivenBack(t *testing.T) {
	p := New()
	for n := range 20 {
		takes(t, p, upTo(n)...)
		gives(t, p, upTo(n)...)
		has(t, p)
	}
	takes(t, p, 1, 2)
}

// Many numbers, given back from either end, and by leaps; each time all of them are handed out again in order.
func TestMany(t *testing.T) {
	const many = 70001
	p := New()
	for _, place := range []func(i int) int{
		func(i int) int { return i },
		func(i int) int { return many - 1 - i },
		func(i int) int { return i * 2 % many },
		func(i int) int { return i * 7 % many },
		func(i int) int { return (i + many/2) % many },
	} {
		for i := range many {
			if n := p.Take(); n != i+1 {
				t.Fatal(n)
			}
		}
		if p.Len() != many || p.Last() != many {
			t.Fatal(p.Len(), p.Last())
		}
		for i := range many {
			if n := place(i) + 1; !p.Give(n) || p.Len() != many-1-i {
				t.Fatal(n)
			}
		}
		has(t, p)
	}
}

// Copy

func TestCopy(t *testing.T) {
	p := full(t, 6)
	gives(t, p, 2, 5, 4)
	q := p.Copy()
	if q == p {
		t.Fatal("the same pool")
	}
	has(t, q, 1, 3, 6)
	refuses(t, q, farNumbers...)
	// The copy goes its own way ..
	takes(t, q, 2, 4, 5, 7, 8)
	gives(t, q, 1, 3)
	has(t, q, 2, 4, 5, 6, 7, 8)
	has(t, p, 1, 3, 6)
	// .. and the one that it was made of.
	gives(t, p, 6)
	takes(t, p, 2, 4)
	has(t, p, 1, 2, 3, 4)
	has(t, q, 2, 4, 5, 6, 7, 8)
	takes(t, q, 1, 3, 9)
	takes(t, p, 5, 6, 7)
	// A copy of a copy, and a second copy of the first one.
	a, b := q.Copy(), p.Copy()
	gives(t, a, 9, 8)
	takes(t, b, 8)
	has(t, a, upTo(7)...)
	has(t, b, upTo(8)...)
	has(t, p, upTo(7)...)
	has(t, q, upTo(9)...)
}

// What is free in both is not one list: a number that is put among it, joined to it or taken from it stays with its pool.
func TestCopyShares(t *testing.T) {
	steps := []func(p *Pool){
		func(p *Pool) { p.Take() },
		func(p *Pool) { p.Give(1) },
		func(p *Pool) { p.Give(3) },
		func(p *Pool) { p.Give(5) },
		func(p *Pool) { p.Give(9) },
		func(p *Pool) { p.Give(7); p.Give(1) },
	}
	for _, one := range steps {
		for _, other := range steps {
			p := full(t, 9)
			gives(t, p, 2, 4, 6)
			q, wantP, wantQ := p.Copy(), full(t, 9), full(t, 9)
			gives(t, wantP, 2, 4, 6)
			gives(t, wantQ, 2, 4, 6)
			one(p)
			other(q)
			one(wantP)
			other(wantQ)
			for range 12 {
				if n, m := p.Take(), wantP.Take(); n != m {
					t.Fatal(n, m)
				}
				if n, m := q.Take(), wantQ.Take(); n != m {
					t.Fatal(n, m)
				}
			}
		}
	}
}

func TestCopyOfEmptyPools(t *testing.T) {
	p := New()
	q := p.Copy()
	has(t, q)
	takes(t, q, 1, 2)
	has(t, p)
	takes(t, p, 1)
	has(t, q, 1, 2)
	gives(t, q, 2, 1)
	r := q.Copy()
	has(t, r)
	takes(t, r, 1, 2, 3)
	has(t, q)
	has(t, p, 1)
}

// Pools that are none

func TestNone(t *testing.T) {
	made := full(t, 3)
	copied := *made
	for name, p := range map[string]*Pool{"nil": nil, "new": new(Pool), "copied as a struct": &copied} {
		for range 2 {
			if p.Take() != 0 || p.Len() != 0 || p.Last() != 0 || p.Copy() != nil {
				t.Error(name)
			}
			for _, n := range append([]int{1, 2, 3, 4}, farNumbers...) {
				if p.In(n) || p.Give(n) {
					t.Error(name, n)
				}
			}
		}
	}
	has(t, made, 1, 2, 3)
	takes(t, made, 4)
}
