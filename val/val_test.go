package val

import (
	"slices"
	"testing"

	"tallow/api"
)

const (
	least = -1 << 63
	most  = 1<<63 - 1
)

// limits are, of each kind, the least and the greatest N that it has, by the chapter's words.
var limits = [...]struct{ least, most int64 }{
	{0, 0}, {0, 0}, {0, 1}, {least, most}, {0, 12},
	{1, 1<<31 - 1}, {1, 1<<31 - 1}, {1, 1<<31 - 1}, {1, 1<<31 - 1}, {1, 1<<31 - 1},
}

// wrongKinds are numbers that are no kind's; some would be one's, if they were cut to fewer bits.
var wrongKinds = []int{-1, -2, 10, 11, 100, 256, 256 + api.KindInt, 1<<16 + api.KindInt, 1<<32 + api.KindInt, least, least + api.KindInt, most}

// numbers are those at which it changes what may be, of some kind or if they were cut to fewer bits.
func numbers() []int64 {
	var l []int64
	for _, n := range []int64{0, 12, 255, 256, 1 << 16, 1 << 31, 1 << 32, 1<<32 + 12, 1 << 62, most - 1} {
		l = append(l, n-1, n, n+1, -n-1, -n, -n+1)
	}
	return append(l, 2, 5, 7, 1000, least, least+1)
}

// each hands f all kinds with all of numbers, and whether the value may be.
func each(f func(v api.Value, may bool)) {
	for kind, x := range limits {
		for _, n := range numbers() {
			f(api.Value{Kind: kind, N: n}, x.least <= n && n <= x.most)
		}
	}
	for _, kind := range wrongKinds {
		for _, n := range numbers() {
			f(api.Value{Kind: kind, N: n}, false)
		}
	}
}

// P2.1

func TestMay(t *testing.T) {
	for _, x := range []struct {
		kind int
		n    int64
		want bool
	}{
		{api.KindNone, 0, true}, {api.KindNone, 1, false}, {api.KindNone, -1, false}, {api.KindNone, least, false},
		{api.KindNil, 0, true}, {api.KindNil, 1, false}, {api.KindNil, -1, false}, {api.KindNil, most, false},
		{api.KindBool, 0, true}, {api.KindBool, 1, true}, {api.KindBool, 2, false}, {api.KindBool, -1, false}, {api.KindBool, 256, false},
		{api.KindInt, 0, true}, {api.KindInt, -1, true}, {api.KindInt, least, true}, {api.KindInt, most, true},
		{api.KindLib, 0, true}, {api.KindLib, 12, true}, {api.KindLib, 13, false}, {api.KindLib, -1, false}, {api.KindLib, least, false},
		{api.KindStr, 0, false}, {api.KindStr, 1, true}, {api.KindStr, 1<<31 - 1, true}, {api.KindStr, 1 << 31, false}, {api.KindStr, -1, false},
		{api.KindTable, 0, false}, {api.KindTable, 1, true}, {api.KindTable, 1<<31 - 1, true}, {api.KindTable, 1 << 31, false}, {api.KindTable, -1, false},
		{api.KindFunc, 0, false}, {api.KindFunc, 1, true}, {api.KindFunc, 1<<31 - 1, true}, {api.KindFunc, 1 << 31, false}, {api.KindFunc, least, false},
		{api.KindCo, 0, false}, {api.KindCo, 1, true}, {api.KindCo, 1<<31 - 1, true}, {api.KindCo, 1 << 31, false}, {api.KindCo, 1<<32 + 1, false},
		{api.KindCell, 0, false}, {api.KindCell, 1, true}, {api.KindCell, 1<<31 - 1, true}, {api.KindCell, 1 << 31, false}, {api.KindCell, most, false},
		{-1, 0, false}, {-1, 1, false}, {10, 0, false}, {10, 1, false}, {least, 1, false}, {most, 1, false},
	} {
		if v := (api.Value{Kind: x.kind, N: x.n}); May(v) != x.want {
			t.Errorf("May(%v) = %v", v, !x.want)
		}
	}
}

func TestLooks(t *testing.T) {
	each(func(v api.Value, may bool) {
		isFalse := v.Kind == api.KindBool && v.N == 0
		if May(v) != may {
			t.Errorf("May(%v) = %v", v, !may)
		}
		if want := may && v.Kind >= 5; Ref(v) != want {
			t.Errorf("Ref(%v) = %v", v, !want)
		}
		if want := may && v.Kind >= 2 && !isFalse; Truth(v) != want {
			t.Errorf("Truth(%v) = %v", v, !want)
		}
		if want := may && v.Kind >= 2; Key(v) != want {
			t.Errorf("Key(%v) = %v", v, !want)
		}
	})
}

// What may not be is none of it all, even where its kind alone would be.
func TestWhatMayNotBe(t *testing.T) {
	for _, v := range []api.Value{
		{N: 1}, {Kind: api.KindNil, N: 1}, {Kind: api.KindBool, N: 2}, {Kind: api.KindBool, N: -1}, {Kind: api.KindLib, N: 13}, {Kind: api.KindLib, N: -1},
		{Kind: api.KindStr}, {Kind: api.KindTable, N: -1}, {Kind: api.KindFunc, N: 1 << 31}, {Kind: api.KindCo, N: most}, {Kind: api.KindCell, N: least},
		{Kind: -1}, {Kind: -1, N: 1}, {Kind: 10}, {Kind: 10, N: 1},
	} {
		if May(v) || Ref(v) || Truth(v) || Key(v) {
			t.Errorf("%v: %v, %v, %v, %v", v, May(v), Ref(v), Truth(v), Key(v))
		}
	}
}

// P2.2

func TestKindsNames(t *testing.T) {
	names := []string{"none", "nil", "bool", "int", "builtin", "string", "table", "function", "coroutine", "cell"}
	if len(names) != api.LastKind+1 {
		t.Fatal(len(names))
	}
	for kind, name := range names {
		if Name(kind) != name {
			t.Errorf("Name(%d) = %q, want %q", kind, Name(kind), name)
		}
	}
	for _, kind := range wrongKinds {
		if Name(kind) != "" {
			t.Errorf("Name(%d) = %q", kind, Name(kind))
		}
	}
}

func TestBuiltinsNames(t *testing.T) {
	names := []string{"out", "error", "type", "setmeta", "getmeta", "rawget", "rawset", "next", "collect", "create", "resume", "yield", "status"}
	if len(names) != api.LastLib+1 {
		t.Fatal(len(names))
	}
	for n, name := range names {
		if Lib(n) != name || LibOf(name) != n {
			t.Errorf("Lib(%d) = %q, LibOf(%q) = %d", n, Lib(n), name, LibOf(name))
		}
	}
	for _, n := range []int{-1, -13, 13, 14, 100, 256, 1 << 16, 1 << 32, least, most} {
		if Lib(n) != "" {
			t.Errorf("Lib(%d) = %q", n, Lib(n))
		}
	}
	for _, name := range []string{
		"", "Out", "OUT", "ou", "outt", " out", "out ", "out\x00", "\x00", "o", "print", "none", "nil", "int", "builtin", "string", "table", "function", "coroutine", "cell",
		"setMeta", "set", "meta", "raw", "get", "0", "12", "-1", "\xff", "ｏut",
	} {
		if LibOf(name) != -1 {
			t.Errorf("LibOf(%q) = %d", name, LibOf(name))
		}
	}
}

// P2.3

func TestRefs(t *testing.T) {
	for i, x := range []struct {
		l    []api.Value
		want []int
	}{
		{nil, nil},
		{[]api.Value{}, nil},
		{[]api.Value{{}, {Kind: api.KindNil}, {Kind: api.KindBool, N: 1}, {Kind: api.KindInt, N: 1}, {Kind: api.KindLib, N: 1}}, nil},
		{[]api.Value{{Kind: api.KindInt, N: 4}, {Kind: api.KindStr, N: 9}, {Kind: api.KindCell, N: 2}, {Kind: api.KindStr, N: 9}, {Kind: api.KindTable}}, []int{9, 2, 9}},
		{[]api.Value{{Kind: api.KindCell, N: 5}, {Kind: api.KindCo, N: 4}, {Kind: api.KindFunc, N: 3}, {Kind: api.KindTable, N: 2}, {Kind: api.KindStr, N: 1}}, []int{5, 4, 3, 2, 1}},
		{[]api.Value{{Kind: api.KindTable, N: 7}, {Kind: api.KindFunc, N: 7}, {Kind: api.KindTable, N: 7}}, []int{7, 7, 7}},
		{[]api.Value{{Kind: api.KindTable, N: 1 << 31}, {Kind: api.KindTable, N: 1<<31 - 1}, {Kind: api.KindTable, N: 1}, {Kind: api.KindTable, N: -1}}, []int{1<<31 - 1, 1}},
		{[]api.Value{{Kind: 10, N: 1}, {Kind: -1, N: 1}, {Kind: api.KindCell, N: 3}, {Kind: 10, N: 3}, {N: 3}}, []int{3}},
	} {
		if got := Refs(x.l); !slices.Equal(got, x.want) {
			t.Errorf("%d: Refs(%v) = %v, want %v", i, x.l, got, x.want)
		}
	}
}

func TestRefsOfLongLists(t *testing.T) {
	var l []api.Value
	var want []int
	each(func(v api.Value, may bool) {
		l = append(l, v)
		if may && v.Kind >= 5 {
			want = append(want, int(v.N))
		}
	})
	if got := Refs(l); !slices.Equal(got, want) {
		t.Errorf("%d numbers, want %d", len(got), len(want))
	}
}

// R5: the list that is handed in stays as it was, to the end of its room, and the answer is new memory each time.
func TestRefsOwnsItsAnswer(t *testing.T) {
	room := []api.Value{{Kind: api.KindStr, N: 1}, {Kind: api.KindInt, N: 2}, {Kind: api.KindCell, N: 3}, {Kind: api.KindStr, N: 4}}
	kept := slices.Clone(room)
	a, b := Refs(room[:3]), Refs(room[:3])
	if !slices.Equal(room, kept) || !slices.Equal(a, []int{1, 3}) {
		t.Error(room, a)
	}
	a[0] = 8
	if b[0] != 1 || !slices.Equal(room, kept) {
		t.Error(room, b)
	}
}

// P2.4

func TestWhatFollows(t *testing.T) {
	each(func(v api.Value, _ bool) {
		if Ref(v) && !(May(v) && Truth(v) && Key(v)) {
			t.Errorf("%v is an object's, but %v, %v, %v", v, May(v), Truth(v), Key(v))
		}
		if Truth(v) && !Key(v) || Key(v) && !May(v) {
			t.Errorf("%v: %v, %v, %v", v, May(v), Truth(v), Key(v))
		}
		if alone := Refs([]api.Value{v}); Ref(v) != (len(alone) == 1 && int64(alone[0]) == v.N) {
			t.Errorf("%v: %v, %v", v, Ref(v), alone)
		}
	})
	for n := -20; n < 40; n++ {
		if (Lib(n) != "") != May(api.Value{Kind: api.KindLib, N: int64(n)}) {
			t.Errorf("Lib(%d) = %q", n, Lib(n))
		}
		if name := Lib(n); name != "" && LibOf(name) != n {
			t.Errorf("LibOf(%q) = %d", name, LibOf(name))
		}
	}
}

// The chapter's examples, row by row.

func TestExamples(t *testing.T) {
	of := func(kind int, n int64) api.Value { return api.Value{Kind: kind, N: n} }
	for i, x := range []struct{ got, want bool }{
		{May(of(api.KindInt, least)), true}, {May(of(api.KindBool, 2)), false}, {May(of(api.KindStr, 0)), false}, {May(of(api.KindStr, 1<<31)), false}, {May(of(api.KindNone, 1)), false}, {May(of(10, 0)), false}, {May(of(10, 1)), false},
		{Ref(of(api.KindTable, 1)), true}, {Ref(of(api.KindInt, 1)), false}, {Ref(of(api.KindTable, 0)), false}, {Truth(of(api.KindBool, 0)), false}, {Truth(of(api.KindInt, 0)), true}, {Truth(of(api.KindNil, 0)), false},
		{Key(of(api.KindNone, 0)), false}, {Key(of(api.KindNil, 0)), false}, {Key(of(api.KindBool, 0)), true}, {Key(of(api.KindLib, 12)), true},
	} {
		if x.got != x.want {
			t.Errorf("example %d: %v", i, x.got)
		}
	}
	if Name(7) != "function" || Name(10) != "" || Lib(0) != "out" || Lib(13) != "" || LibOf("status") != 12 || LibOf("Out") != -1 {
		t.Error("examples of names")
	}
}
