package dict

import (
	"slices"
	"testing"

	"tallow/api"
)

// wrongSlots are slots that may not be: some of each way that the chapter names.
func wrongSlots() [][]api.Value {
	var l [][]api.Value
	for _, text := range []string{
		// fewer than two
		"", "nil", "t", "0",
		// a metatable that is none
		"none 0", "false 0", "true 0", "0 0", "3 0", "out 0", "a 0", "f 0", "co 0", "cell 0",
		// a length that is none
		"nil nil", "nil none", "nil false", "nil true a", "nil out", "nil next a b c d c d c", "nil a", "nil t", "nil -1", "nil -1 a", "nil -2 a b", "nil least", "nil least a b",
		// more than there are
		"nil 1", "nil 2", "nil 2 a", "nil 3 a b", "nil 5 a b c d", "nil most", "nil most a", "nil 4611686018427387904 a b", "nil 4294967296", "nil 4294967297 a", "nil 9223372036854775806 a b",
		// no whole number of pairs
		"nil 0 a", "nil 0 a b c", "nil 1 a b", "nil 2 a b c d t", "nil 0 0",
		// none in the array, or in a pair
		"nil 1 none", "nil 2 none a", "nil 2 a none", "nil 3 a none b", "nil 0 none a", "nil 0 a none", "nil 0 a b none c", "nil 0 a b c none", "nil 0 none none",
		// nil at the array's end
		"nil 1 nil", "nil 2 a nil", "nil 2 nil nil", "nil 3 a b nil", "nil 1 nil a b",
		// a pair's key that is none, its value that is nil
		"nil 0 nil a", "nil 0 a nil", "nil 0 a b nil c", "nil 0 a b c nil", "nil 1 a nil b", "nil 0 nil nil",
		// a key in two pairs
		"nil 0 a b a b", "nil 0 a b a c", "nil 0 5 a 5 b", "nil 0 false a false b", "nil 0 a 1 b 2 a 3", "nil 0 b 2 a 1 a 3", "nil 1 a t a b c t b", "nil 0 out a out b",
		// a key that is an array's, or the next one
		"nil 0 1 a", "nil 1 a 1 b", "nil 1 a 2 b", "nil 2 a b 1 c", "nil 2 a b 2 c", "nil 2 a b 3 c", "nil 3 a nil b 2 c", "nil 0 a b 1 c", "nil 2 a b d t 3 c",
	} {
		l = append(l, values(text))
	}
	for _, v := range wrong() {
		a, b, no, zero := value("a"), value("b"), value("nil"), value("0")
		l = append(l,
			[]api.Value{v, zero}, []api.Value{no, v}, []api.Value{no, v, a, b, a, b, a, b},
			[]api.Value{no, value("1"), v}, []api.Value{no, value("2"), v, a}, []api.Value{no, value("2"), a, v},
			[]api.Value{no, zero, v, a}, []api.Value{no, zero, a, v}, []api.Value{no, zero, a, b, v, a}, []api.Value{no, zero, a, b, b, v},
		)
	}
	return l
}

// P9.1, and what the others answer of such slots, whatever the rest is.
func TestWrongSlots(t *testing.T) {
	ks := slices.Concat(keys(), values("nil none"), wrong())
	for _, s := range wrongSlots() {
		if check(t, s) || length(t, s) != 0 {
			t.Errorf("%v may be: %d", s, length(t, s))
		}
		for _, k := range ks {
			if v := get(t, s, k); v != value("nil") {
				t.Errorf("Get(%v, %v) = %v", s, k, v)
			}
			if key, e := next(t, s, k); key != (api.Value{}) || e != api.ErrArg {
				t.Errorf("Next(%v, %v) = %v, %d", s, k, key, e)
			}
			for _, v := range append(values("nil none a 1"), wrong()...) {
				if next, gone, e := put(t, s, k, v); len(next) != 0 || len(gone) != 0 || e != api.ErrArg {
					t.Errorf("Put(%v, %v, %v) = %v, %v, %d", s, k, v, next, gone, e)
				}
			}
		}
	}
	if Check(nil) || Len(nil) != 0 || Get(nil, value("1")) != value("nil") {
		t.Error("nil may be")
	}
}

// right are slots that may be.
func right() [][]api.Value {
	return [][]api.Value{New(), values("t 3 a nil 7 5 b a c false d 0 0"), values("nil 0 a b"), values("nil 1 t")}
}

// P9.2

func TestPutRefuses(t *testing.T) {
	for _, s := range right() {
		for _, v := range values("nil 1 a false") {
			for _, k := range values("nil none") {
				refused(t, s, k, v, api.ErrKey)
			}
			for _, k := range wrong() {
				refused(t, s, k, v, api.ErrArg)
			}
		}
		for _, k := range slices.Concat(keys(), values("nil none"), wrong()) {
			for _, v := range append(wrong(), value("none")) {
				refused(t, s, k, v, api.ErrArg)
			}
		}
	}
}

func refused(t *testing.T, s []api.Value, k, v api.Value, want api.Errno) {
	t.Helper()
	if next, gone, e := put(t, s, k, v); len(next) != 0 || len(gone) != 0 || e != want {
		t.Errorf("Put(%v, %v, %v) = %v, %v, %d, not %d", s, k, v, next, gone, e, want)
	}
}

// P9.1: a key that may not be, or is none, is there nowhere.
func TestGetOfNoKey(t *testing.T) {
	for _, s := range right() {
		for _, k := range append(wrong(), values("nil none")...) {
			if v := get(t, s, k); v != value("nil") {
				t.Errorf("Get(%v, %v) = %v", s, k, v)
			}
		}
	}
}

// P9.3

func TestNextRefuses(t *testing.T) {
	for _, s := range right() {
		for _, k := range append(wrong(), value("none")) {
			if key, e := next(t, s, k); key != (api.Value{}) || e != api.ErrArg {
				t.Errorf("Next(%v, %v) = %v, %d", s, k, key, e)
			}
		}
	}
	for text, others := range map[string]string{
		"nil 0":                     "0 1 2 -1 least most false true out a b t f co cell",
		"nil 3 a nil b":             "0 4 5 -1 -3 least most false a b",
		"nil 2 a b 4 c t f false u": "0 3 5 a b c f u true out",
		"t 0 a b":                   "b t 1 0 2",
	} {
		for _, k := range values(others) {
			if key, e := next(t, values(text), k); key != (api.Value{}) || e != api.ErrNone {
				t.Errorf("Next(%s, %v) = %v, %d", text, k, key, e)
			}
		}
	}
}
