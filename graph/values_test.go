package graph

import (
	"reflect"
	"slices"
	"strconv"
	"strings"
	"testing"

	"tallow/api"
)

const (
	least = -1 << 63
	most  = 1<<63 - 1
)

// kinds are the objects' kinds, in the order of their numbers.
var kinds = []string{"str", "table", "func", "co", "cell"}

// value reads a value: an int, an object's kind with its number behind it, or one of these words.
func value(word string) api.Value {
	switch word {
	case "none":
		return api.Value{}
	case "nil":
		return api.Value{Kind: api.KindNil}
	case "false":
		return api.Value{Kind: api.KindBool}
	case "true":
		return api.Value{Kind: api.KindBool, N: 1}
	case "out":
		return api.Value{Kind: api.KindLib, N: api.LibOut}
	case "error":
		return api.Value{Kind: api.KindLib, N: api.LibError}
	}
	kind, digits := api.KindInt, word
	for i, name := range kinds {
		if rest, is := strings.CutPrefix(word, name); is {
			kind, digits = api.KindStr+i, rest
		}
	}
	n, err := strconv.ParseInt(digits, 10, 64)
	if err != nil {
		panic("no value: " + word)
	}
	return api.Value{Kind: kind, N: n}
}

// values reads values that are parted by blanks.
func values(text string) []api.Value {
	var l []api.Value
	for _, word := range strings.Fields(text) {
		l = append(l, value(word))
	}
	return l
}

// object reads an object: its kind, its count, and its slots; - is none.
func object(text string) api.Obj {
	words := strings.Fields(text)
	if words[0] == "-" {
		return api.Obj{}
	}
	count, err := strconv.Atoi(words[1])
	kind := slices.Index(kinds, words[0])
	if err != nil || kind < 0 {
		panic("no object: " + text)
	}
	return api.Obj{Kind: api.KindStr + kind, Count: count, Slots: values(strings.Join(words[2:], " "))}
}

// graphOf reads objects that are parted by semicolons.
func graphOf(text string) api.Graph {
	var g api.Graph
	for part := range strings.SplitSeq(text, ";") {
		if strings.TrimSpace(part) != "" {
			g.Objs = append(g.Objs, object(part))
		}
	}
	return g
}

// wrong are values that may not be: of no kind, or with an N that their kind has not; some would be those of the objects 1 to 3, if they were cut to fewer bits.
func wrong() []api.Value {
	l := []api.Value{
		{Kind: -1}, {Kind: -1, N: 1}, {Kind: 10}, {Kind: 10, N: 1}, {Kind: 10, N: 2}, {Kind: 1 << 32}, {Kind: 1<<32 + api.KindTable, N: 2}, {Kind: 256 + api.KindTable, N: 2}, {N: 1}, {N: -1},
		{Kind: api.KindNil, N: 1}, {Kind: api.KindNil, N: least}, {Kind: api.KindBool, N: 2}, {Kind: api.KindBool, N: -1}, {Kind: api.KindLib, N: 13}, {Kind: api.KindLib, N: -1},
	}
	for kind := api.KindStr; kind <= api.KindCell; kind++ {
		for _, n := range []int64{0, -1, -2, 1 << 31, 1<<32 + 1, 1<<32 + 2, 1<<32 + 3, least, least + 1, least + 2, most} {
			l = append(l, api.Value{Kind: kind, N: n})
		}
	}
	return l
}

func clone(g api.Graph) api.Graph {
	g.Objs = slices.Clone(g.Objs)
	for i := range g.Objs {
		g.Objs[i].Slots = slices.Clone(g.Objs[i].Slots)
	}
	return g
}

// roomyList answers a copy of l that has room behind its end, with something in it.
func roomyList(l []api.Value) []api.Value {
	return append(slices.Clone(l), values("table1 none 7 str1")...)[:len(l)]
}

// roomy answers a copy of g each list of which has such room.
func roomy(g api.Graph) api.Graph {
	g = clone(g)
	for i, o := range g.Objs {
		g.Objs[i].Slots = roomyList(o.Slots)
	}
	g.Objs = append(g.Objs, object("table 1 table1"), object("-"), object("table 3 none"))[:len(g.Objs)]
	return g
}

// unchanged tells whether g and more are roomy(was) and roomyList(wasMore), still.
func unchanged(g, was api.Graph, more, wasMore []api.Value) bool {
	whole := func(l []api.Value) []api.Value { return l[:len(l)+4] }
	all := func(g api.Graph) api.Graph {
		g = api.Graph{Objs: slices.Clone(g.Objs[:len(g.Objs)+3])}
		for i := range g.Objs[:len(g.Objs)-3] {
			g.Objs[i].Slots = whole(g.Objs[i].Slots)
		}
		return g
	}
	return reflect.DeepEqual(all(g), all(roomy(was))) && slices.Equal(whole(more), whole(roomyList(wasMore)))
}

// asked is what call answers, and looks whether it changes what it is handed, and whether what it answers is its own.
func asked(t *testing.T, g api.Graph, more []api.Value, call func(g api.Graph, more []api.Value) []int) []int {
	t.Helper()
	handed, handedMore := roomy(g), roomyList(more)
	l := call(handed, handedMore)
	kept := slices.Clone(l)
	for i := range l[:cap(l)] {
		l[:cap(l)][i] = -7
	}
	if !unchanged(handed, g, handedMore, more) {
		t.Fatalf("%v, %v: what was handed in is changed", g, more)
	}
	if again := call(handed, handedMore); !slices.Equal(again, kept) {
		t.Fatalf("%v, %v: %v, and then %v", g, more, kept, again)
	}
	return kept
}

// check, into, exact and holders are Check, Into, Exact and Holders, and look at that too.
func check(t *testing.T, g api.Graph) bool {
	t.Helper()
	is := asked(t, g, nil, func(g api.Graph, _ []api.Value) []int {
		if Check(g) {
			return []int{1}
		}
		return nil
	})
	return len(is) == 1
}

func into(t *testing.T, g api.Graph) []int {
	t.Helper()
	return asked(t, g, nil, func(g api.Graph, _ []api.Value) []int { return Into(g) })
}

func exact(t *testing.T, g api.Graph, more []api.Value) []int {
	t.Helper()
	return asked(t, g, more, Exact)
}

func holders(t *testing.T, g api.Graph, n int) []int {
	t.Helper()
	return asked(t, g, nil, func(g api.Graph, _ []api.Value) []int { return Holders(g, n) })
}

// numbers reads numbers that are parted by blanks.
func numbers(text string) []int {
	var l []int
	for _, v := range values(text) {
		l = append(l, int(v.N))
	}
	return l
}
