package dict

import (
	"slices"
	"testing"

	"tallow/api"
)

// The chapter once more, from its words: a table is its parts, and a pair is looked for one by one.

type pair struct{ key, value api.Value }

type model struct {
	meta  api.Value
	array []api.Value
	pairs []pair
}

// isNil, isObject and isKey hold of values that may be.
func isNil(v api.Value) bool    { return v.Kind == api.KindNil }
func isObject(v api.Value) bool { return v.Kind >= api.KindStr }
func isKey(v api.Value) bool    { return v.Kind >= api.KindBool }

// mayBe is the words' second paragraph, clause by clause, of values all of which may be.
func mayBe(s []api.Value) bool {
	if len(s) < 2 || s[0].Kind != api.KindNil && s[0].Kind != api.KindTable || s[1].Kind != api.KindInt || s[1].N < 0 || s[1].N > int64(len(s))-2 {
		return false
	}
	n := int(s[1].N)
	rest := s[2+n:]
	if len(rest)%2 == 1 || slices.Contains(s, api.Value{}) || n > 0 && isNil(s[1+n]) {
		return false
	}
	for i := 0; i < len(rest); i += 2 {
		if !isKey(rest[i]) || isNil(rest[i+1]) {
			return false
		}
		for j := 0; j < i; j += 2 {
			if rest[j] == rest[i] {
				return false
			}
		}
		for x := 1; x <= n+1; x++ {
			if rest[i] == number(int64(x)) {
				return false
			}
		}
	}
	return true
}

func modelOf(s []api.Value) model {
	n := s[1].N
	m := model{meta: s[0], array: slices.Clone(s[2 : 2+n])}
	for rest := s[2+n:]; len(rest) > 0; rest = rest[2:] {
		m.pairs = append(m.pairs, pair{rest[0], rest[1]})
	}
	return m
}

func (m model) slots() []api.Value {
	s := append([]api.Value{m.meta, number(int64(len(m.array)))}, m.array...)
	for _, p := range m.pairs {
		s = append(s, p.key, p.value)
	}
	return s
}

func (m model) pairOf(k api.Value) int {
	return slices.IndexFunc(m.pairs, func(p pair) bool { return p.key == k })
}

func (m model) get(k api.Value) api.Value {
	for i, v := range m.array {
		if k == number(int64(i)+1) {
			return v
		}
	}
	if i := m.pairOf(k); i >= 0 {
		return m.pairs[i].value
	}
	return api.Value{Kind: api.KindNil}
}

func (m *model) takeOut(i int) {
	m.pairs[i] = m.pairs[len(m.pairs)-1]
	m.pairs = m.pairs[:len(m.pairs)-1]
}

// put is the table of P9.2: the first row of which both columns hold.
func (m *model) put(k, v api.Value) (gone []api.Value) {
	n, i := int64(len(m.array)), m.pairOf(k)
	old := m.get(k)
	for _, row := range []struct {
		k, v   bool
		done   func()
		leaves []api.Value
	}{
		{k.Kind == api.KindInt && 1 <= k.N && k.N <= n, !isNil(v), func() { m.array[k.N-1] = v }, []api.Value{old}},
		{n > 0 && k == number(n), isNil(v), func() {
			m.array = m.array[:n-1]
			for len(m.array) > 0 && isNil(m.array[len(m.array)-1]) {
				m.array = m.array[:len(m.array)-1]
			}
		}, []api.Value{old}},
		{k.Kind == api.KindInt && 1 <= k.N && k.N <= n-1, isNil(v), func() { m.array[k.N-1] = v }, []api.Value{old}},
		{k == number(n+1), !isNil(v), func() {
			m.array = append(m.array, v)
			for i := m.pairOf(number(int64(len(m.array)) + 1)); i >= 0; i = m.pairOf(number(int64(len(m.array)) + 1)) {
				m.array = append(m.array, m.pairs[i].value)
				m.takeOut(i)
			}
		}, nil},
		{i >= 0, !isNil(v), func() { m.pairs[i].value = v }, []api.Value{old, k}},
		{i >= 0, isNil(v), func() { m.takeOut(i) }, []api.Value{old, k, k}},
		{true, !isNil(v), func() { m.pairs = append(m.pairs, pair{k, v}) }, nil},
		{true, isNil(v), func() {}, []api.Value{k}},
	} {
		if row.k && row.v {
			row.done()
			return slices.DeleteFunc(row.leaves, func(v api.Value) bool { return !isObject(v) })
		}
	}
	panic("no row")
}

// next is P9.3 of a value that may be and is not none.
func (m model) next(k api.Value) (api.Value, api.Errno) {
	var keys []api.Value
	for i := range m.array {
		keys = append(keys, number(int64(i)+1))
	}
	for _, p := range m.pairs {
		keys = append(keys, p.key)
	}
	at := slices.Index(keys, k)
	if at < 0 && !isNil(k) {
		return api.Value{}, api.ErrNone
	}
	for _, key := range keys[at+1:] {
		if !isNil(m.get(key)) {
			return key, api.OK
		}
	}
	return api.Value{Kind: api.KindNil}, api.OK
}

// like holds Put, Get, Next and Len against the model, at slots that may be.
func like(t *testing.T, s []api.Value, k, v api.Value) (next []api.Value) {
	t.Helper()
	m := modelOf(s)
	if got, e := Next(s, k); isKey(k) || isNil(k) {
		if want, f := m.next(k); got != want || e != f {
			t.Fatalf("Next(%v, %v) = %v, %d, not %v, %d", s, k, got, e, want, f)
		}
	}
	if got, want := Get(s, k), m.get(k); got != want || Len(s) != int64(len(m.array)) {
		t.Fatalf("Get(%v, %v) = %v, not %v; Len %d", s, k, got, want, Len(s))
	}
	next, gone, e := put(t, s, k, v)
	switch {
	case v == api.Value{}:
		if e != api.ErrArg {
			t.Fatalf("Put(%v, %v, %v): %d", s, k, v, e)
		}
	case !isKey(k):
		if e != api.ErrKey {
			t.Fatalf("Put(%v, %v, %v): %d", s, k, v, e)
		}
	default:
		left := m.put(k, v)
		if !slices.Equal(next, m.slots()) || !slices.Equal(gone, left) || e != api.OK || !mayBe(next) {
			t.Fatalf("Put(%v, %v, %v) = %v, %v, %d, not %v, %v", s, k, v, next, gone, e, m.slots(), left)
		}
		sameObjects(t, s, k, v, next, gone)
		return next
	}
	if len(next) != 0 || len(gone) != 0 {
		t.Fatalf("Put(%v, %v, %v) = %v, %v, %d", s, k, v, next, gone, e)
	}
	return nil
}

// P9.4: the objects of what there was, k and v among it, are those of what there is and what left.
func sameObjects(t *testing.T, s []api.Value, k, v api.Value, next, gone []api.Value) {
	t.Helper()
	was, is := map[api.Value]int{}, map[api.Value]int{}
	for _, x := range slices.Concat(s, []api.Value{k, v}) {
		was[x]++
	}
	for _, x := range slices.Concat(next, gone) {
		is[x]++
	}
	for _, x := range slices.Concat(s, next, gone, []api.Value{k, v}) {
		if isObject(x) && was[x] != is[x] {
			t.Fatalf("Put(%v, %v, %v) = %v, %v: %v is there %d times, then %d", s, k, v, next, gone, x, was[x], is[x])
		}
	}
}

// All slots of up to five of these values behind the metatable: whether they may be; and of those that may, all puts and nexts of these values.
func TestAllShortSlots(t *testing.T) {
	some := values("none nil false 0 1 2 3 a t")
	var on func(s []api.Value, more int)
	on = func(s []api.Value, more int) {
		if may := mayBe(s); Check(s) != may {
			t.Fatalf("Check(%v) = %t", s, !may)
		} else if may {
			for _, k := range some {
				for _, v := range some {
					like(t, s, k, v)
				}
			}
		}
		if more == 0 {
			return
		}
		for _, v := range some {
			on(append(slices.Clone(s), v), more-1)
		}
	}
	on(values(""), 0)
	on(values("nil"), 5)
	on(values("t"), 3)
	on(values("a"), 2)
	on(values("0"), 2)
}

// draws answers a source of numbers below what it is asked, the same in each run.
func draws() func(below int) int {
	bits := uint64(88172645463325252)
	return func(below int) int {
		bits ^= bits << 13
		bits ^= bits >> 7
		bits ^= bits << 17
		return int(bits % uint64(below))
	}
}

// Tables that fill and empty by turns, with keys of each kind, ints most often; what they hold is also kept in a list of its own, by the words of P9.4.
func TestDrawnPuts(t *testing.T) {
	draw := draws()
	for round := range 20 {
		s, reach := New(), 4+2*round
		var held []pair
		for step := range 1000 {
			k, v := drawn(draw, reach), drawn(draw, 3)
			if filling := 3 + 4*(step/100%2); draw(10) >= filling {
				v = value("nil")
			}
			s = like(t, s, k, v)
			held = slices.DeleteFunc(held, func(p pair) bool { return p.key == k })
			if !isNil(v) {
				held = append(held, pair{k, v})
			}
			if step%7 == 0 {
				holds(t, s, held)
			}
		}
	}
}

// drawn answers a key.
func drawn(draw func(below int) int, reach int) api.Value {
	switch draw(4) {
	case 0:
		return api.Value{Kind: api.KindStr + draw(5), N: int64(1 + draw(4))}
	case 1:
		return []api.Value{value("false"), value("true"), value("out"), value("least"), value("most"), value("0"), value("-1")}[draw(7)]
	}
	return number(int64(1 + draw(reach)))
}

// holds looks whether s has just these keys and values, and P9.5: Next tells each key once.
func holds(t *testing.T, s []api.Value, held []pair) {
	t.Helper()
	left := slices.Clone(held)
	for k, e := Next(s, value("nil")); !isNil(k); k, e = Next(s, k) {
		at := slices.IndexFunc(left, func(p pair) bool { return p.key == k })
		if e != api.OK || at < 0 || left[at].value != Get(s, k) {
			t.Fatalf("%v: %v, %d; left are %v", s, k, e, left)
		}
		left = slices.Delete(left, at, at+1)
	}
	if len(left) != 0 {
		t.Fatalf("%v: not told are %v", s, left)
	}
}

// Slots of a table in which one value is another one, or some are left out, or come twice.
func TestSpoiltSlots(t *testing.T) {
	draw := draws()
	for range 20000 {
		s := New()
		for range draw(12) {
			s, _, _ = Put(s, drawn(draw, 6), drawn(draw, 4))
		}
		if !Check(s) || !mayBe(s) {
			t.Fatal(s)
		}
		from := draw(len(s))
		to := from + draw(len(s)-from+1)
		switch draw(3) {
		case 0:
			s[from] = append(values("none nil 0 1 2"), drawn(draw, 9))[draw(6)]
		case 1:
			s = slices.Delete(s, from, to)
		case 2:
			s = slices.Insert(s, from, slices.Clone(s[from:to])...)
		}
		if may := mayBe(s); check(t, s) != may {
			t.Fatalf("Check(%v) = %t", s, !may)
		}
	}
}

// What goes on from the array's end is found, however much it is.
func TestLongTable(t *testing.T) {
	const n = 50000
	s := values("nil 0")
	for i := int64(n); i > 1; i-- {
		s = append(s, number(i), number(-i))
	}
	s = append(s, value("a"), value("b"))
	next, gone, e := Put(s, number(1), number(-1))
	if e != api.OK || len(gone) != 0 || len(next) != 2+n+2 || Len(next) != n || next[2+n] != value("a") || next[3+n] != value("b") {
		t.Fatal(len(next), gone, e)
	}
	for i := int64(1); i <= n; i++ {
		if next[1+i] != number(-i) {
			t.Fatal(i, next[1+i])
		}
	}
	for i := range next[2 : 1+n] {
		next[2+i] = value("nil")
	}
	if k, e := Next(next, value("nil")); k != number(n) || e != api.OK {
		t.Error(k, e)
	}
	if next, _, e = Put(next, number(n), value("nil")); !slices.Equal(next, values("nil 0 a b")) || e != api.OK {
		t.Error(len(next), e)
	}
}
