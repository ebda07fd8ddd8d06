package trial

import (
	"reflect"
	"slices"
	"strconv"
	"strings"
	"testing"

	"tallow/api"
)

const (
	least = -1 << 63
	most  = 1<<63 - 1
)

// names are kinds of values, by number; objects' from str on.
var names = []string{"none", "nil", "bool", "int", "lib", "str", "table", "func", "co", "cell"}

// number reads a number; a text of no bytes is 0.
func number(text string) int {
	if text == "" {
		return 0
	}
	n, err := strconv.Atoi(text)
	if err != nil {
		panic("no number: " + text)
	}
	return n
}

// numbers reads numbers that are parted by blanks.
func numbers(text string) []int {
	var l []int
	for _, word := range strings.Fields(text) {
		l = append(l, number(word))
	}
	return l
}

// value reads a value: a kind and N; without a kind it is the object N's of g, of the kind that it has there.
func value(g api.Graph, word string) api.Value {
	name := strings.TrimRight(word, "-0123456789")
	n := number(word[len(name):])
	kind := slices.Index(names, name)
	if name == "" && 1 <= n && n <= len(g.Objs) {
		kind = g.Objs[n-1].Kind
	}
	if kind < 0 {
		panic("no value: " + word)
	}
	return api.Value{Kind: kind, N: int64(n)}
}

// values reads values that are parted by blanks.
func values(g api.Graph, text string) []api.Value {
	var l []api.Value
	for _, word := range strings.Fields(text) {
		l = append(l, value(g, word))
	}
	return l
}

// holding answers how many slots of the objects in of hold the object n.
func holding(g api.Graph, of []int, n int) int {
	times := 0
	for _, m := range of {
		for _, v := range g.Objs[m-1].Slots {
			if v.Kind >= api.KindStr && v.N == int64(n) {
				times++
			}
		}
	}
	return times
}

// graphOf reads objects that are parted by semicolons, each a kind with its slots behind it; - is none. Each Count is how many slots hold the object; behind the kind may stand + or = and a number, by which it is more, or which it is, and ! and a number, its Mark.
func graphOf(text string) api.Graph {
	parts := strings.FieldsFunc(text, func(r rune) bool { return r == ';' })
	g := api.Graph{Objs: make([]api.Obj, len(parts))}
	heads, slots := make([]string, len(parts)), make([]string, len(parts))
	for i, part := range parts {
		heads[i], slots[i], _ = strings.Cut(strings.TrimSpace(part), " ")
		if name := strings.TrimRight(heads[i], "+=!-0123456789"); name != "" {
			g.Objs[i].Kind = slices.Index(names, name)
		}
	}
	for i := range g.Objs {
		g.Objs[i].Slots = values(g, slots[i])
	}
	for i := range g.Objs {
		head, mark, _ := strings.Cut(heads[i], "!")
		g.Objs[i].Mark = number(mark)
		g.Objs[i].Count = holding(g, count1(len(parts)), i+1)
		if _, more, is := strings.Cut(head, "+"); is {
			g.Objs[i].Count += number(more)
		}
		if _, all, is := strings.Cut(head, "="); is {
			g.Objs[i].Count = number(all)
		}
	}
	return g
}

// count1 answers the numbers from 1 to n.
func count1(n int) []int {
	l := make([]int, n)
	for i := range l {
		l[i] = i + 1
	}
	return l
}

// room is what lies behind the ends of lists that are handed in.
const room = 3

// roomyNumbers answers a copy of l with room behind it.
func roomyNumbers(l []int) []int { return append(slices.Clone(l), 1, 0, 2)[:len(l)] }

// roomy answers a copy of g with room behind each list.
func roomy(g api.Graph) api.Graph {
	objs := slices.Clone(g.Objs)
	for i, o := range objs {
		more := []api.Value{{Kind: api.KindTable, N: 1}, {}, {Kind: api.KindInt, N: 7}}
		objs[i].Slots = append(slices.Clone(o.Slots), more...)[:len(o.Slots)]
	}
	return api.Graph{Objs: append(objs, api.Obj{}, api.Obj{Kind: api.KindTable}, api.Obj{Kind: -1})[:len(objs)]}
}

// whole answers a copy of g in which the room of roomy stands within the lists.
func whole(g api.Graph) api.Graph {
	objs := slices.Clone(g.Objs[:len(g.Objs)+room])
	for i, o := range objs[:len(g.Objs)] {
		objs[i].Slots = o.Slots[:len(o.Slots)+room]
	}
	return api.Graph{Objs: objs}
}

// spoil writes over a list, and the room behind it.
func spoil(l []int) {
	for i := range l[:cap(l)] {
		l[:cap(l)][i] = -7
	}
}

// asked is what call answers; it looks whether call changes what it is handed, and whether what it answers is its own.
func asked(t *testing.T, g api.Graph, l []int, call func(g api.Graph, l []int) (a, b []int)) (a, b []int) {
	t.Helper()
	handed, handedList := roomy(g), roomyNumbers(l)
	a, b = call(handed, handedList)
	keptA, keptB := slices.Clone(a), slices.Clone(b)
	spoil(a)
	if !slices.Equal(b, keptB) {
		t.Fatalf("%v, %v: two lists share memory", g, l)
	}
	spoil(b)
	if !reflect.DeepEqual(whole(handed), whole(roomy(g))) {
		t.Fatalf("%v: changed to %v", g, handed)
	}
	if !slices.Equal(handedList[:len(l)+room], roomyNumbers(l)[:len(l)+room]) {
		t.Fatalf("%v: changed to %v", l, handedList)
	}
	a, b = call(handed, handedList)
	if !slices.Equal(a, keptA) || !slices.Equal(b, keptB) {
		t.Fatalf("%v, %v: %v %v, and then %v %v", g, l, keptA, keptB, a, b)
	}
	return keptA, keptB
}

// seenOf, whiteOf and goneOf are Seen, White and Gone, and look at that too.
func seenOf(t *testing.T, g api.Graph, cands []int) []int {
	t.Helper()
	l, _ := asked(t, g, cands, func(g api.Graph, l []int) (a, b []int) { return Seen(g, l), nil })
	return l
}

func whiteOf(t *testing.T, g api.Graph, cands []int) []int {
	t.Helper()
	l, _ := asked(t, g, cands, func(g api.Graph, l []int) (a, b []int) { return White(g, l), nil })
	return l
}

func goneOf(t *testing.T, g api.Graph, white []int) (gone, marked []int) {
	t.Helper()
	return asked(t, g, white, Gone)
}
