package dict

import (
	"slices"
	"strconv"
	"testing"

	"tallow/api"
)

// P9.1

func TestNew(t *testing.T) {
	s := New()
	if !slices.Equal(s, values("nil 0")) || !check(t, s) || length(t, s) != 0 {
		t.Errorf("New() = %v", s)
	}
	fill(s)
	if again := New(); !slices.Equal(again, values("nil 0")) {
		t.Errorf("New() = %v, behind one that was overwritten", again)
	}
}

func TestMayBe(t *testing.T) {
	for text, n := range map[string]int64{
		"nil 0":                      0,
		"t 0":                        0,
		"nil 1 a":                    1,
		"t 1 t":                      1,
		"nil 1 false":                1,
		"nil 2 nil 0":                2,
		"nil 3 a nil b":              3,
		"nil 4 nil nil nil 1":        4,
		"nil 6 true 5 out f co cell": 6,
		"nil 0 a b":                  0,
		"nil 0 a b b a":              0,
		"nil 0 t t":                  0,
		"nil 0 0 a":                  0,
		"nil 0 2 a":                  0,
		"nil 0 -1 a":                 0,
		"nil 0 least a most b":       0,
		"nil 0 false a true b":       0,
		"nil 0 out a next b":         0,
		"nil 0 f false co 0 cell a":  0,
		"nil 1 a 0 b":                1,
		"nil 1 a 3 b":                1,
		"nil 2 a b 4 c a b":          2,
		"u 3 a nil nil":              -1,
		"u 2 a nil":                  -1,
		"u 3 a nil b 5 a b a a 5":    3,
	} {
		s := values(text)
		if ok := check(t, s); ok != (n >= 0) || length(t, s) != max(n, 0) {
			t.Errorf("%s: %t, %d", text, ok, length(t, s))
		}
	}
}

func TestGet(t *testing.T) {
	s := values("t 3 a nil 7 5 b a c false d 0 0 t true u 5 least u")
	for word, want := range map[string]string{
		"1": "a", "2": "nil", "3": "7", "5": "b", "a": "c", "false": "d", "0": "0", "t": "true", "u": "5", "least": "u",
		"4": "nil", "6": "nil", "-1": "nil", "most": "nil", "b": "nil", "true": "nil", "out": "nil", "f": "nil", "nil": "nil", "none": "nil",
	} {
		if v := get(t, s, value(word)); v != value(want) {
			t.Errorf("of %s: %v, not %s", word, v, want)
		}
	}
	for _, k := range keys() {
		if v := get(t, New(), k); v != value("nil") {
			t.Errorf("of %v, where there is none: %v", k, v)
		}
	}
}

// A key is what it is by its kind and its number, both.
func TestKeysOfOtherKinds(t *testing.T) {
	s := New()
	kinds := []int{api.KindBool, api.KindInt, api.KindLib, api.KindStr, api.KindTable, api.KindFunc, api.KindCo, api.KindCell}
	for i, kind := range kinds {
		var e api.Errno
		if s, _, e = put(t, s, api.Value{Kind: kind, N: 1}, value(strconv.Itoa(i))); e != api.OK {
			t.Fatal(e)
		}
	}
	if length(t, s) != 1 || len(s) != 2+1+2*7 {
		t.Error(s)
	}
	for i, kind := range kinds {
		if v := get(t, s, api.Value{Kind: kind, N: 1}); v != value(strconv.Itoa(i)) {
			t.Errorf("kind %d: %v", kind, v)
		}
	}
}

// P9.2

func TestPut(t *testing.T) {
	for _, x := range []struct{ s, k, v, next, gone string }{
		// an int from 1 to n
		{"nil 1 a", "1", "b", "nil 1 b", "a"},
		{"nil 1 a", "1", "a", "nil 1 a", "a"},
		{"nil 1 5", "1", "b", "nil 1 b", ""},
		{"nil 3 a b c", "1", "d", "nil 3 d b c", "a"},
		{"nil 3 a b c", "2", "false", "nil 3 a false c", "b"},
		{"nil 3 a b c", "3", "d", "nil 3 a b d", "c"},
		{"nil 3 a nil c", "2", "d", "nil 3 a d c", ""},
		{"u 2 t f 4 a b c", "2", "9", "u 2 t 9 4 a b c", "f"},
		{"nil 2 co cell", "1", "out", "nil 2 out cell", "co"},
		// n, and nil
		{"nil 1 a", "1", "nil", "nil 0", "a"},
		{"nil 1 5", "1", "nil", "nil 0", ""},
		{"nil 3 a b c", "3", "nil", "nil 2 a b", "c"},
		{"nil 3 a nil c", "3", "nil", "nil 1 a", "c"},
		{"nil 4 a nil nil c", "4", "nil", "nil 1 a", "c"},
		{"nil 3 nil nil c", "3", "nil", "nil 0", "c"},
		{"nil 5 a nil b nil c 7 a d 6", "5", "nil", "nil 3 a nil b 7 a d 6", "c"},
		{"u 3 nil nil t 5 a b 6", "3", "nil", "u 0 5 a b 6", "t"},
		{"nil 3 a false c", "3", "nil", "nil 2 a false", "c"},
		{"nil 3 a 0 c", "3", "nil", "nil 2 a 0", "c"},
		// another one, and nil
		{"nil 3 a b c", "1", "nil", "nil 3 nil b c", "a"},
		{"nil 3 a b c", "2", "nil", "nil 3 a nil c", "b"},
		{"nil 3 a nil c", "2", "nil", "nil 3 a nil c", ""},
		{"nil 3 nil nil c 5 a", "1", "nil", "nil 3 nil nil c 5 a", ""},
		{"nil 2 5 a", "1", "nil", "nil 2 nil a", ""},
		// n + 1
		{"nil 0", "1", "a", "nil 1 a", ""},
		{"t 0", "1", "false", "t 1 false", ""},
		{"nil 2 nil b", "3", "c", "nil 3 nil b c", ""},
		{"nil 0 2 a 3 b", "1", "t", "nil 3 t a b", ""},
		{"nil 0 3 b 2 a", "1", "t", "nil 3 t a b", ""},
		{"nil 0 3 b", "1", "t", "nil 1 t 3 b", ""},
		{"nil 0 5 a 3 b 2 c", "1", "t", "nil 3 t c b 5 a", ""},
		{"nil 0 2 a b c 3 d t u", "1", "f", "nil 3 f a d t u b c", ""},
		{"nil 0 a 1 2 b c 3", "1", "d", "nil 2 d b a 1 c 3", ""},
		{"nil 0 2 b a 1 c 3", "1", "d", "nil 2 d b c 3 a 1", ""},
		{"nil 1 a 3 b 5 c 4 d 7 t", "2", "u", "nil 5 a u b d c 7 t", ""},
		{"nil 1 a 4 b 0 c -1 d", "2", "u", "nil 2 a u 4 b 0 c -1 d", ""},
		// a pair's key
		{"nil 0 a b", "a", "t", "nil 0 a t", "b a"},
		{"nil 0 a b", "a", "b", "nil 0 a b", "b a"},
		{"nil 0 a b", "a", "a", "nil 0 a a", "b a"},
		{"nil 0 a 5", "a", "6", "nil 0 a 6", "a"},
		{"nil 0 5 a", "5", "b", "nil 0 5 b", "a"},
		{"nil 0 5 6", "5", "7", "nil 0 5 7", ""},
		{"nil 1 t a b false c 9 d", "false", "u", "nil 1 t a b false u 9 d", "c"},
		{"nil 1 t a b false c 9 d", "9", "u", "nil 1 t a b false c 9 u", "d"},
		{"nil 1 t a b false c 9 d", "a", "false", "nil 1 t a false false c 9 d", "b a"},
		{"nil 0 t u", "t", "f", "nil 0 t f", "u t"},
		{"nil 0 f u", "f", "true", "nil 0 f true", "u f"},
		{"nil 0 co u", "co", "f", "nil 0 co f", "u co"},
		{"nil 0 cell u", "cell", "f", "nil 0 cell f", "u cell"},
		{"nil 0 out u", "out", "f", "nil 0 out f", "u"},
		{"nil 0 least u", "least", "f", "nil 0 least f", "u"},
		// a pair's key, and nil
		{"nil 0 a b", "a", "nil", "nil 0", "b a a"},
		{"nil 0 a b t a", "a", "nil", "nil 0 t a", "b a a"},
		{"nil 0 a b t a", "t", "nil", "nil 0 a b", "a t t"},
		{"nil 0 a b t a c d", "a", "nil", "nil 0 c d t a", "b a a"},
		{"nil 0 a b t a c d", "t", "nil", "nil 0 a b c d", "a t t"},
		{"nil 0 a b t a c d", "c", "nil", "nil 0 a b t a", "d c c"},
		{"nil 0 a 5 t a", "a", "nil", "nil 0 t a", "a a"},
		{"nil 0 5 a 6 b", "5", "nil", "nil 0 6 b", "a"},
		{"nil 0 5 6", "5", "nil", "nil 0", ""},
		{"nil 0 a a b a", "a", "nil", "nil 0 b a", "a a a"},
		{"u 2 nil t true false out 7", "true", "nil", "u 2 nil t out 7", ""},
		// any other
		{"nil 0", "2", "a", "nil 0 2 a", ""},
		{"nil 0", "0", "a", "nil 0 0 a", ""},
		{"nil 0", "a", "a", "nil 0 a a", ""},
		{"nil 0 a b", "b", "a", "nil 0 a b b a", ""},
		{"nil 2 a b", "4", "c", "nil 2 a b 4 c", ""},
		{"nil 2 a b c d", "most", "f", "nil 2 a b c d most f", ""},
		{"t 1 a", "t", "t", "t 1 a t t", ""},
		{"nil 0 true a", "false", "b", "nil 0 true a false b", ""},
		// any other, and nil
		{"nil 0", "1", "nil", "nil 0", ""},
		{"nil 0", "a", "nil", "nil 0", "a"},
		{"nil 0", "cell", "nil", "nil 0", "cell"},
		{"t 2 a b 4 c d t", "3", "nil", "t 2 a b 4 c d t", ""},
		{"t 2 a b 4 c d t", "5", "nil", "t 2 a b 4 c d t", ""},
		{"t 2 a b 4 c d t", "a", "nil", "t 2 a b 4 c d t", "a"},
		{"t 2 a b 4 c d t", "t", "nil", "t 2 a b 4 c d t", "t"},
		{"t 2 a b 4 c d t", "out", "nil", "t 2 a b 4 c d t", ""},
		{"t 2 a b 4 c d t", "0", "nil", "t 2 a b 4 c d t", ""},
	} {
		next, gone, e := put(t, values(x.s), value(x.k), value(x.v))
		if !slices.Equal(next, values(x.next)) || !slices.Equal(gone, values(x.gone)) || e != api.OK {
			t.Errorf("Put(%s, %s, %s) = %v, %v, %d; not %s, %s", x.s, x.k, x.v, next, gone, e, x.next, x.gone)
		}
	}
}

// Ints that come in any order move into the array as soon as they go on from its end.
func TestAnyOrder(t *testing.T) {
	var order func(s []api.Value, left []int64)
	order = func(s []api.Value, left []int64) {
		if len(left) == 0 {
			if !slices.Equal(s, values("nil 6 1 2 3 4 5 6")) {
				t.Fatalf("in the end: %v", s)
			}
			return
		}
		for i, n := range left {
			next, gone, e := put(t, s, number(n), number(n))
			rest := slices.Delete(slices.Clone(left), i, i+1)
			if want := slices.Min(append(rest, 7)) - 1; length(t, next) != want || len(gone) != 0 || e != api.OK || !check(t, next) {
				t.Fatalf("Put(%v, %d): %v, %v, %d", s, n, next, gone, e)
			}
			order(next, slices.Delete(slices.Clone(left), i, i+1))
		}
	}
	order(New(), []int64{1, 2, 3, 4, 5, 6})
}

// Under each kind of key a value is put, put anew, and taken out; the others stay as they are.
func TestEachKindOfKey(t *testing.T) {
	s := values("u 0")
	for i, k := range keys() {
		s = mustPut(t, s, k, number(int64(i)), "")
	}
	for i, k := range keys() {
		if v := get(t, s, k); v != number(int64(i)) {
			t.Errorf("%v: %v", k, v)
		}
	}
	for i, k := range keys() {
		was := slices.Clone(s)
		s = mustPut(t, s, k, value("b"), refs(k))
		s = mustPut(t, s, k, value("c"), "b "+refs(k))
		s = mustPut(t, s, k, number(int64(i)), "c "+refs(k))
		if !slices.Equal(s, was) {
			t.Errorf("%v: %v", k, s)
		}
	}
	for i, k := range keys() {
		s = mustPut(t, s, k, value("nil"), refs(k)+" "+refs(k))
		for j, other := range keys() {
			want := value("nil")
			if j > i {
				want = number(int64(j))
			}
			if v := get(t, s, other); v != want {
				t.Errorf("without %v, %v: %v", k, other, v)
			}
		}
	}
	if !slices.Equal(s, values("u 0")) {
		t.Error(s)
	}
}

// refs answers the word of an object's value, no word of another one.
func refs(k api.Value) string {
	for _, word := range []string{"a", "t", "f", "co", "cell"} {
		if k == value(word) {
			return word
		}
	}
	return ""
}

func mustPut(t *testing.T, s []api.Value, k, v api.Value, gone string) []api.Value {
	t.Helper()
	next, left, e := put(t, s, k, v)
	if e != api.OK || !slices.Equal(left, values(gone)) || !check(t, next) || get(t, next, k) != v || next[0] != s[0] {
		t.Fatalf("Put(%v, %v, %v) = %v, %v, %d", s, k, v, next, left, e)
	}
	return next
}

// P9.3

func TestNext(t *testing.T) {
	for _, x := range []struct {
		s    string
		keys string
	}{
		{"nil 0", ""},
		{"t 0", ""},
		{"nil 3 a b c", "1 2 3"},
		{"nil 3 nil b c", "2 3"},
		{"nil 3 a nil c", "1 3"},
		{"nil 5 nil nil a nil c", "3 5"},
		{"nil 2 false 0", "1 2"},
		{"nil 0 a b", "a"},
		{"nil 0 b a a b", "b a"},
		{"nil 0 9 a 3 b -1 c", "9 3 -1"},
		{"nil 2 nil b false a 9 c t f", "2 false 9 t"},
		{"t 1 t t t u u f f", "1 t u f"},
	} {
		k := value("nil")
		for _, want := range append(values(x.keys), value("nil")) {
			var e api.Errno
			if k, e = next(t, values(x.s), k); k != want || e != api.OK {
				t.Errorf("%s: %v, %d, not %v", x.s, k, e, want)
			}
		}
	}
}

// An int from 1 to n has its place, be its value nil or not.
func TestNextBehindNils(t *testing.T) {
	for k, want := range map[string]string{"nil": "3", "1": "3", "2": "3", "3": "6", "4": "6", "5": "6", "6": "b", "b": "8", "8": "nil"} {
		if key, e := next(t, values("nil 6 nil nil a nil nil c b a 8 d"), value(k)); key != value(want) || e != api.OK {
			t.Errorf("behind %s: %v, %d", k, key, e)
		}
	}
}

// P9.4, P9.5: see also model_test.go.

func TestOthersStay(t *testing.T) {
	for _, text := range []string{"nil 0", "t 3 a nil 7 5 b a c false d 0 0 t true u 5 least u", "nil 0 2 a 3 b 5 c 1024 d t f", "u 4 nil nil nil 0", "nil 1 a 3 b 4 c 5 d 6 t"} {
		s := values(text)
		if !check(t, s) {
			t.Fatal(text)
		}
		for _, k := range append(keys(), values("4 5 6 u b c d")...) {
			for _, v := range values("nil false 0 b t") {
				next, _, e := put(t, s, k, v)
				if e != api.OK || !check(t, next) || next[0] != s[0] {
					t.Fatalf("Put(%v, %v, %v) = %v, %d", s, k, v, next, e)
				}
				for _, other := range append(keys(), values("4 5 6 7 u b c d 1024")...) {
					want := get(t, s, other)
					if other == k {
						want = v
					}
					if got := get(t, next, other); got != want {
						t.Errorf("Put(%v, %v, %v): %v has %v, not %v", s, k, v, other, got, want)
					}
				}
			}
		}
	}
}

// The chapter's examples.

func TestExamples(t *testing.T) {
	s1 := New()
	for _, x := range []struct {
		s          []api.Value
		k, v       string
		next, gone string
	}{
		{s1, "1", "a", "nil 1 a", ""},
		{s1, "2", "a", "nil 0 2 a", ""},
		{s1, "a", "b", "nil 0 a b", ""},
		{s1, "a", "nil", "nil 0", "a"},
		{values("nil 0 2 a 3 b"), "1", "t", "nil 3 t a b", ""},
		{values("nil 3 t a b"), "3", "nil", "nil 2 t a", "b"},
		{values("nil 3 t nil b"), "3", "nil", "nil 1 t", "b"},
		{values("nil 3 t nil b"), "1", "a", "nil 3 a nil b", "t"},
		{values("nil 0 a b"), "a", "t", "nil 0 a t", "b a"},
		{values("nil 0 a b t a"), "a", "nil", "nil 0 t a", "b a a"},
	} {
		next, gone, e := put(t, x.s, value(x.k), value(x.v))
		if !slices.Equal(next, values(x.next)) || !slices.Equal(gone, values(x.gone)) || e != api.OK {
			t.Errorf("Put(%v, %s, %s) = %v, %v, %d", x.s, x.k, x.v, next, gone, e)
		}
	}
	for _, x := range []struct {
		k, want string
		e       api.Errno
	}{{"nil", "2", api.OK}, {"2", "a", api.OK}, {"a", "nil", api.OK}, {"1", "2", api.OK}, {"b", "none", api.ErrNone}} {
		if k, e := next(t, values("nil 2 nil b a t"), value(x.k)); k != value(x.want) || e != x.e {
			t.Errorf("behind %s: %v, %d", x.k, k, e)
		}
	}
	if _, _, e := put(t, s1, value("nil"), value("a")); e != api.ErrKey {
		t.Error(e)
	}
	if _, _, e := put(t, s1, value("a"), value("none")); e != api.ErrArg {
		t.Error(e)
	}
	if check(t, values("nil 1 nil")) || check(t, values("nil 0 1 a")) {
		t.Error("they may be")
	}
}
