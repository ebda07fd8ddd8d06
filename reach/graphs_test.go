package reach

import (
	"reflect"
	"slices"
	"strconv"
	"strings"
	"testing"

	"tallow/api"
)

// names are kinds of values, by number; objects' from str on.
var names = []string{"none", "nil", "bool", "int", "lib", "str", "table", "func", "co", "cell"}

// value reads a value: a kind and N; without a kind it is the object N's of g, of the kind that it has there.
func value(g api.Graph, word string) api.Value {
	name := strings.TrimRight(word, "-0123456789")
	digits := word[len(name):]
	if digits == "" {
		digits = "0"
	}
	n, err := strconv.ParseInt(digits, 10, 64)
	kind := slices.Index(names, name)
	if name == "" && 1 <= n && int(n) <= len(g.Objs) {
		kind = g.Objs[n-1].Kind
	}
	if err != nil || kind < 0 {
		panic("no value: " + word)
	}
	return api.Value{Kind: kind, N: n}
}

// values reads values that are parted by blanks.
func values(g api.Graph, text string) []api.Value {
	var l []api.Value
	for _, word := range strings.Fields(text) {
		l = append(l, value(g, word))
	}
	return l
}

// graphOf reads objects that are parted by semicolons, each a kind with its slots behind it; - is none.
func graphOf(text string) api.Graph {
	parts := strings.FieldsFunc(text, func(r rune) bool { return r == ';' })
	g := api.Graph{Objs: make([]api.Obj, len(parts))}
	slots := make([]string, len(parts))
	for i, part := range parts {
		name, rest, _ := strings.Cut(strings.TrimSpace(part), " ")
		if name != "-" {
			g.Objs[i].Kind = slices.Index(names, name)
		}
		slots[i] = rest
	}
	for i := range g.Objs {
		g.Objs[i].Slots = values(g, slots[i])
	}
	return g
}

// numbers reads numbers that are parted by blanks.
func numbers(text string) []int {
	var l []int
	for _, word := range strings.Fields(text) {
		n, err := strconv.Atoi(word)
		if err != nil {
			panic("no number: " + word)
		}
		l = append(l, n)
	}
	return l
}

// wrongValues may not be: they are of no kind, or have an N that their kind has not. Some would be those of the objects 1 to 3, if they were cut to fewer bits, or counted from the end.
func wrongValues() []api.Value {
	l := []api.Value{
		{Kind: -1, N: 1}, {Kind: 10, N: 1}, {Kind: 10, N: 2}, {Kind: 256 + api.KindTable, N: 2}, {Kind: 1<<32 + api.KindTable, N: 1}, {N: 1}, {N: -1},
		{Kind: api.KindNil, N: 1}, {Kind: api.KindBool, N: 2}, {Kind: api.KindBool, N: -1}, {Kind: api.KindLib, N: 13}, {Kind: api.KindLib, N: -1},
	}
	for kind := api.KindStr; kind <= api.KindCell; kind++ {
		for _, n := range []int64{0, -1, -2, 1 << 31, 1<<32 + 1, 1<<32 + 2, 1<<32 + 3, least, least + 1, most} {
			l = append(l, api.Value{Kind: kind, N: n})
		}
	}
	return l
}

const (
	least = -1 << 63
	most  = 1<<63 - 1
)

// room is what lies behind the ends of lists that are handed in.
const room = 3

func roomyList(l []api.Value) []api.Value {
	return append(slices.Clone(l), api.Value{Kind: api.KindTable, N: 1}, api.Value{}, api.Value{Kind: api.KindInt, N: 7})[:len(l)]
}

// roomy answers a copy of g with room behind each list.
func roomy(g api.Graph) api.Graph {
	objs := slices.Clone(g.Objs)
	for i, o := range objs {
		objs[i].Slots = roomyList(o.Slots)
	}
	return api.Graph{Objs: append(objs, api.Obj{}, api.Obj{Kind: api.KindTable}, api.Obj{Kind: -1})[:len(objs)]}
}

// whole answers a copy of g in which the room of roomy stands within the lists.
func whole(g api.Graph) api.Graph {
	objs := slices.Clone(g.Objs[:len(g.Objs)+room])
	for i, o := range objs[:len(g.Objs)] {
		objs[i].Slots = o.Slots[:len(o.Slots)+room]
	}
	return api.Graph{Objs: objs}
}

// asked is what call answers; it looks whether call changes what it is handed, and whether what it answers is its own.
func asked(t *testing.T, g api.Graph, roots []api.Value, call func(g api.Graph, roots []api.Value) []int) []int {
	t.Helper()
	handed, handedRoots := roomy(g), roomyList(roots)
	l := call(handed, handedRoots)
	kept := slices.Clone(l)
	for i := range l[:cap(l)] {
		l[:cap(l)][i] = -7
	}
	if !reflect.DeepEqual(whole(handed), whole(roomy(g))) {
		t.Fatalf("%v: changed to %v", g, handed)
	}
	if !slices.Equal(handedRoots[:len(roots)+room], roomyList(roots)[:len(roots)+room]) {
		t.Fatalf("%v: changed to %v", roots, handedRoots)
	}
	if again := call(handed, handedRoots); !slices.Equal(again, kept) {
		t.Fatalf("%v, %v: %v, and then %v", g, roots, kept, again)
	}
	return kept
}

// from, lost and path are From, Lost and Path, and look at that too.
func from(t *testing.T, g api.Graph, roots []api.Value) []int {
	t.Helper()
	return asked(t, g, roots, From)
}

func lost(t *testing.T, g api.Graph, roots []api.Value) []int {
	t.Helper()
	return asked(t, g, roots, Lost)
}

func path(t *testing.T, g api.Graph, root api.Value, to int) []int {
	t.Helper()
	return asked(t, g, nil, func(g api.Graph, _ []api.Value) []int { return Path(g, root, to) })
}
