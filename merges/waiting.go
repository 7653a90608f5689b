package merges

// waiting has the lists that wait, none of them empty, as a heap: the first thing of the list at i comes no later than those of the lists at 2i+1 and 2i+2.
type waiting[T any] struct {
	lists [][]T
	cmp   func(x, y T) int
}

func waitingOf[T any](lists [][]T, cmp func(x, y T) int) *waiting[T] {
	w := &waiting[T]{cmp: cmp}
	for _, list := range lists {
		if len(list) > 0 {
			w.lists = append(w.lists, list)
		}
	}
	for at := len(w.lists) / 2; at >= 0; at-- {
		w.sink(at)
	}
	return w
}

// next takes the first thing of the list whose turn it is; ok is false if no list waits any more.
func (w *waiting[T]) next() (x T, ok bool) {
	if len(w.lists) == 0 {
		return x, false
	}
	x = w.lists[0][0]
	w.lists[0] = w.lists[0][1:]
	if len(w.lists[0]) == 0 {
		w.removeFirst()
	}
	w.sink(0)
	return x, true
}

func (w *waiting[T]) removeFirst() {
	end := len(w.lists) - 1
	w.lists[0] = w.lists[end]
	w.lists = w.lists[:end]
}

// sink moves the list at a place down till those below it come no sooner.
func (w *waiting[T]) sink(at int) {
	for {
		first := w.sooner(w.sooner(at, 2*at+1), 2*at+2)
		if first == at {
			return
		}
		w.lists[at], w.lists[first] = w.lists[first], w.lists[at]
		at = first
	}
}

// sooner returns the place of that one of two lists which comes sooner; there may be none at the other place.
func (w *waiting[T]) sooner(at, other int) int {
	if other < len(w.lists) && w.cmp(w.lists[other][0], w.lists[at][0]) < 0 {
		return other
	}
	return at
}
