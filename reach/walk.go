package reach

import (
	"maps"
	"slices"

	"tallow/api"
)

// maxDive is how many objects deep a mark goes by calling itself: a row of objects may be longer than calls can be deep.
const maxDive = 1000

// set is numbers, each once.
type set map[int]struct{}

// rounds looks at what is in next, then at what was laid into it meanwhile, and so on, until it is empty.
func rounds(next set, look func(n, round int)) {
	for round := 1; len(next) > 0; round++ {
		for _, n := range slices.Sorted(maps.Keys(next)) {
			delete(next, n)
			look(n, round)
		}
	}
}

// marks tells of each number whether its object can be reached from those.
func marks(g api.Graph, from []int) []bool {
	marked := make([]bool, len(g.Objs)+1)
	next := set{}
	var mark func(n, deep int)
	mark = func(n, deep int) {
		if marked[n] {
			return
		}
		if deep == maxDive {
			next[n] = struct{}{}
			return
		}
		marked[n] = true
		for _, m := range held(g, n) {
			mark(m, deep+1)
		}
	}
	for _, n := range from {
		next[n] = struct{}{}
	}
	rounds(next, func(n, _ int) { mark(n, 0) })
	return marked
}

// lengths tells of each number how many objects the shortest way from its object to the object to has; 0, if there is none.
func lengths(g api.Graph, to int) []int {
	length := make([]int, len(g.Objs)+1)
	holders := holdersOf(g)
	next := set{to: {}}
	rounds(next, func(n, round int) {
		length[n] = round
		for _, holder := range holders[n] {
			if length[holder] == 0 {
				next[holder] = struct{}{}
			}
		}
	})
	return length
}

// holdersOf tells of each number which objects hold its object.
func holdersOf(g api.Graph) [][]int {
	holders := make([][]int, len(g.Objs)+1)
	for i := range g.Objs {
		for _, n := range held(g, i+1) {
			holders[n] = append(holders[n], i+1)
		}
	}
	return holders
}

// way goes on behind the objects that it is handed, each time to the least of those from which the way is shorter by one, and answers all of them; none, if there is no way.
func way(g api.Graph, length []int, objs ...int) []int {
	if len(objs) == 0 {
		return nil
	}
	n := objs[len(objs)-1]
	if length[n] == 0 {
		return nil
	}
	for left := length[n] - 1; left > 0; left-- {
		nearer := slices.DeleteFunc(held(g, n), func(m int) bool { return length[m] != left })
		n = slices.Min(nearer)
		objs = append(objs, n)
	}
	return objs
}
