package dict

import (
	"tallow/api"
	"tallow/val"
)

// slots are a table's slots, cut into their parts. Each part ends where its room ends, so that what is put behind it never lies on the next one.
type slots struct {
	meta  api.Value
	array []api.Value
	pairs []api.Value
	at    map[api.Value]int // where in pairs a key stands
}

// cut answers the parts of s, which lie in the memory of s, and whether s may be.
func cut(s []api.Value) (*slots, bool) {
	if !headed(s) {
		return nil, false
	}
	end := 2 + int(s[1].N)
	t := &slots{meta: s[0], array: s[2:end:end], pairs: s[end:len(s):len(s)]}
	return t, t.arrayMay() && t.findPairs()
}

// headed tells whether s begins with a metatable and a length for which there are values.
func headed(s []api.Value) bool {
	return len(s) >= 2 &&
		(s[0] == null() || s[0].Kind == api.KindTable && val.May(s[0])) &&
		s[1].Kind == api.KindInt && s[1].N >= 0 && s[1].N <= int64(len(s)-2)
}

func (t *slots) arrayMay() bool {
	for _, v := range t.array {
		if !val.May(v) || v.Kind == api.KindNone {
			return false
		}
	}
	n := len(t.array)
	return n == 0 || t.array[n-1] != null()
}

// findPairs notes where each key stands, as long as all pairs may be, and tells whether they do.
func (t *slots) findPairs() bool {
	if len(t.pairs)%2 != 0 {
		return false
	}
	t.at = make(map[api.Value]int, len(t.pairs)/2)
	for at := 0; at < len(t.pairs); at += 2 {
		k, v := t.pairs[at], t.pairs[at+1]
		_, twice := t.at[k]
		if twice || !val.Key(k) || !val.Key(v) || t.listed(k) || k == t.after() {
			return false
		}
		t.at[k] = at
	}
	return true
}

func (t *slots) length() int64 { return int64(len(t.array)) }

// after answers the key behind the array's ones.
func (t *slots) after() api.Value { return number(t.length() + 1) }

// listed tells whether k is one of the array's keys.
func (t *slots) listed(k api.Value) bool {
	return k.Kind == api.KindInt && 1 <= k.N && k.N <= t.length()
}

func (t *slots) get(k api.Value) api.Value {
	if t.listed(k) {
		return t.array[k.N-1]
	}
	if at, ok := t.at[k]; ok {
		return t.pairs[at+1]
	}
	return null()
}

// put makes v the value of k, and answers the objects' values that leave.
func (t *slots) put(k, v api.Value) []api.Value {
	at, paired := t.at[k]
	switch old := t.get(k); {
	case t.listed(k):
		t.array[k.N-1] = v
		t.trim()
		return objects(old)
	case paired && v == null():
		key := t.pairs[at]
		t.takeOut(at)
		return objects(old, key, k)
	case paired:
		t.pairs[at+1] = v
		return objects(old, k)
	case v == null():
		return objects(k)
	case k == t.after():
		t.lengthen(v)
	default:
		t.pairs = append(t.pairs, k, v)
	}
	return nil
}

// trim takes the nils away that end the array.
func (t *slots) trim() {
	n := len(t.array)
	for n > 0 && t.array[n-1] == null() {
		n--
	}
	t.array = t.array[:n:n]
}

// lengthen puts v behind the array, and then the values of the pairs that go on from there.
func (t *slots) lengthen(v api.Value) {
	t.array = append(t.array, v)
	for {
		at, ok := t.at[t.after()]
		if !ok {
			return
		}
		t.array = append(t.array, t.pairs[at+1])
		t.takeOut(at)
	}
}

// takeOut takes the pair away that stands there; the last one takes its place.
func (t *slots) takeOut(at int) {
	last := len(t.pairs) - 2
	delete(t.at, t.pairs[at])
	if at != last {
		t.pairs[at], t.pairs[at+1] = t.pairs[last], t.pairs[last+1]
		t.at[t.pairs[at]] = at
	}
	t.pairs = t.pairs[:last:last]
}

// behind answers the place behind that of k: the array's values have one each, then the pairs' slots. Ahead of all is nil.
func (t *slots) behind(k api.Value) (place int, ok bool) {
	if k == null() {
		return 0, true
	}
	if t.listed(k) {
		return int(k.N), true
	}
	at, ok := t.at[k]
	return len(t.array) + at + 2, ok
}

// keyFrom answers the first key from that place on whose value is not nil.
func (t *slots) keyFrom(place int) api.Value {
	for ; place < len(t.array); place++ {
		if t.array[place] != null() {
			return number(int64(place) + 1)
		}
	}
	if at := place - len(t.array); at < len(t.pairs) {
		return t.pairs[at]
	}
	return null()
}
