package dict

import (
	"slices"
	"strconv"
	"strings"
	"testing"

	"tallow/api"
)

const (
	least = -1 << 63
	most  = 1<<63 - 1
)

// value reads a value: an int, or one of these words.
func value(word string) api.Value {
	switch word {
	case "none":
		return api.Value{}
	case "nil":
		return api.Value{Kind: api.KindNil}
	case "false":
		return api.Value{Kind: api.KindBool}
	case "true":
		return api.Value{Kind: api.KindBool, N: 1}
	case "out":
		return api.Value{Kind: api.KindLib, N: api.LibOut}
	case "next":
		return api.Value{Kind: api.KindLib, N: api.LibNext}
	case "a":
		return api.Value{Kind: api.KindStr, N: 1}
	case "b":
		return api.Value{Kind: api.KindStr, N: 2}
	case "t":
		return api.Value{Kind: api.KindTable, N: 3}
	case "c":
		return api.Value{Kind: api.KindStr, N: 4}
	case "d":
		return api.Value{Kind: api.KindStr, N: 5}
	case "u":
		return api.Value{Kind: api.KindTable, N: 6}
	case "f":
		return api.Value{Kind: api.KindFunc, N: 7}
	case "co":
		return api.Value{Kind: api.KindCo, N: 8}
	case "cell":
		return api.Value{Kind: api.KindCell, N: 9}
	case "least":
		return api.Value{Kind: api.KindInt, N: least}
	case "most":
		return api.Value{Kind: api.KindInt, N: most}
	}
	n, err := strconv.ParseInt(word, 10, 64)
	if err != nil {
		panic("no value: " + word)
	}
	return api.Value{Kind: api.KindInt, N: n}
}

// values reads values that are parted by blanks.
func values(text string) []api.Value {
	var l []api.Value
	for _, word := range strings.Fields(text) {
		l = append(l, value(word))
	}
	return l
}

// wrong are values that may not be: of no kind, or with an N that their kind has not.
func wrong() []api.Value {
	return []api.Value{
		{Kind: -1}, {Kind: -1, N: 1}, {Kind: 10}, {Kind: 10, N: 1}, {Kind: 1 << 32}, {Kind: 1<<32 + api.KindInt}, {N: 1}, {N: -1},
		{Kind: api.KindNil, N: 1}, {Kind: api.KindNil, N: least}, {Kind: api.KindBool, N: 2}, {Kind: api.KindBool, N: -1}, {Kind: api.KindLib, N: 13}, {Kind: api.KindLib, N: -1},
		{Kind: api.KindStr}, {Kind: api.KindStr, N: -1}, {Kind: api.KindTable}, {Kind: api.KindTable, N: 1 << 31}, {Kind: api.KindFunc}, {Kind: api.KindCo, N: most}, {Kind: api.KindCell, N: least},
	}
}

// keys are values of each kind that is a key, some that an array could have among them.
func keys() []api.Value { return values("false true least -1 0 1 2 3 most out next a t f co cell") }

// roomy answers a copy of s that has room behind its end, with something in it.
func roomy(s []api.Value) []api.Value {
	return append(slices.Clone(s), values("f 77 f 77 f 77 f 77")...)[:len(s)]
}

// unchanged tells whether s is roomy(was), still.
func unchanged(s, was []api.Value) bool {
	return slices.Equal(s, was) && slices.Equal(s[len(s):len(s)+8], values("f 77 f 77 f 77 f 77"))
}

// fill overwrites s and the room behind its end.
func fill(s []api.Value) {
	for i := range s[:cap(s)] {
		s[:cap(s)][i] = value("cell")
	}
}

// put is Put, and looks whether it changes what it was handed, or answers memory that is not its own.
func put(t *testing.T, s []api.Value, k, v api.Value) (next, gone []api.Value, e api.Errno) {
	t.Helper()
	handed := roomy(s)
	next, gone, e = Put(handed, k, v)
	kept, left := slices.Clone(next), slices.Clone(gone)
	fill(next)
	if !slices.Equal(gone, left) {
		t.Fatalf("Put(%v, %v, %v): what leaves shares with the slots", s, k, v)
	}
	fill(gone)
	if !unchanged(handed, s) {
		t.Fatalf("Put(%v, %v, %v): what it was handed is changed", s, k, v)
	}
	return kept, left, e
}

// get, check, length and next are Get, Check, Len and Next, and look whether they change what they are handed.
func get(t *testing.T, s []api.Value, k api.Value) api.Value {
	t.Helper()
	handed := roomy(s)
	v := Get(handed, k)
	if !unchanged(handed, s) {
		t.Fatalf("Get(%v, %v): what it was handed is changed", s, k)
	}
	return v
}

func check(t *testing.T, s []api.Value) bool {
	t.Helper()
	handed := roomy(s)
	ok := Check(handed)
	if !unchanged(handed, s) {
		t.Fatalf("Check(%v): what it was handed is changed", s)
	}
	return ok
}

func length(t *testing.T, s []api.Value) int64 {
	t.Helper()
	handed := roomy(s)
	n := Len(handed)
	if !unchanged(handed, s) {
		t.Fatalf("Len(%v): what it was handed is changed", s)
	}
	return n
}

func next(t *testing.T, s []api.Value, k api.Value) (api.Value, api.Errno) {
	t.Helper()
	handed := roomy(s)
	key, e := Next(handed, k)
	if !unchanged(handed, s) {
		t.Fatalf("Next(%v, %v): what it was handed is changed", s, k)
	}
	return key, e
}
