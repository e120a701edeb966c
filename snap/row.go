package snap

import (
	"bytes"
	"slices"

	"grotto/api"
)

// row keeps the items that were put into it last, most of them at the most.
type row[T any] struct {
	most  int
	items []T
}

// push: an item is the last one.
func (r *row[T]) push(x T) {
	r.items = append(r.items, x)
	if len(r.items) > r.most {
		r.items = slices.Delete(r.items, 0, 1)
	}
}

// pop: the last one, which is gone; false, if there is none.
func (r *row[T]) pop() (x T, ok bool) {
	last := len(r.items) - 1
	if last < 0 {
		return x, false
	}
	x = r.items[last]
	// Delete also empties the place, so that the row holds on to nothing of what it told.
	r.items = slices.Delete(r.items, last, last+1)
	return x, true
}

// copied: a state that is the same, in memory of its own.
func copied(st api.State) api.State {
	return api.State{
		Ram:    bytes.Clone(st.Ram),
		Heap:   st.Heap,
		Blocks: slices.Clone(st.Blocks),
		Stack:  bytes.Clone(st.Stack),
	}
}
