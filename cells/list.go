package cells

import (
	"maps"
	"slices"
)

// list is items in order, none twice. T's zero value is no item: it stands where one left from between others, so that none of these need be moved.
type list[T comparable] struct {
	items []T
	place map[T]int // of each item: how many places are ahead of it, and were
	went  int       // how many places were ahead of items, and are no more
}

func newList[T comparable]() *list[T] { return &list[T]{place: map[T]int{}} }

// put puts x behind all others, unless it is in the list.
func put[T comparable](l *list[T], x T) {
	if !l.has(x) {
		l.place[x] = l.went + len(l.items)
		l.items = append(l.items, x)
	}
}

// cut takes x out of the list, if it is there.
func cut[T comparable](l *list[T], x T) {
	if !l.has(x) {
		return
	}
	var none T
	l.items[l.place[x]-l.went] = none
	delete(l.place, x)
	for len(l.items) > 0 && l.items[0] == none {
		l.items = l.items[1:]
		l.went++
	}
	// As many items have left as are moved then, so the moves are few for each, however long the list is.
	if len(l.items) > 2*len(l.place) {
		l.tidy()
	}
}

// tidy takes the empty places away.
func (l *list[T]) tidy() {
	l.items = full(l.items)
	for i, x := range l.items {
		l.place[x] = l.went + i
	}
}

func (l *list[T]) has(x T) bool {
	_, is := l.place[x]
	return is
}

// first answers the first item, or none.
func (l *list[T]) first() T {
	var none T
	if len(l.items) == 0 {
		return none
	}
	return l.items[0]
}

// all answers the items, in order, in new memory.
func (l *list[T]) all() []T {
	if len(l.items) == len(l.place) {
		return slices.Clone(l.items)
	}
	return full(slices.Clone(l.items))
}

func (l *list[T]) copied() *list[T] {
	return &list[T]{slices.Clone(l.items), maps.Clone(l.place), l.went}
}

// full takes what is no item out of items, in their own memory.
func full[T comparable](items []T) []T {
	var none T
	return slices.DeleteFunc(items, func(x T) bool { return x == none })
}
