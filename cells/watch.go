package cells

import "slices"

// watch is numbers, and whether one of their objects was touched.
type watch struct {
	list    []int // as they were told
	add     func(n int)
	is      func(n int) bool
	touched bool
}

// newWatch answers a watch on no numbers.
func newWatch() *watch {
	named := map[int]struct{}{}
	return &watch{
		add: func(n int) { named[n] = struct{}{} },
		is: func(n int) bool {
			_, is := named[n]
			return is
		},
	}
}

// on answers a watch on the numbers in l alone, for which w may be used up; nothing was touched. A search has what it saw watched again and again, a little more each time: then nothing but that is added.
func (w *watch) on(l []int) *watch {
	if len(l) < len(w.list) || !slices.Equal(w.list, l[:len(w.list)]) {
		w = newWatch()
	}
	for _, n := range l[len(w.list):] {
		w.list = append(w.list, n)
		w.add(n)
	}
	w.touched = false
	return w
}

// touch notes that the object of that number was touched.
func (w *watch) touch(n int) {
	if w.is(n) {
		w.touched = true
	}
}

func (w *watch) copied() *watch {
	c := newWatch().on(w.list)
	c.touched = w.touched
	return c
}
