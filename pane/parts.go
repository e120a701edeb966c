package pane

import (
	"cmp"
	"slices"

	"grotto/api"
)

// window is a window of a tree; those that it belongs with are told by their numbers, 0 if there is none.
type window struct {
	number int
	kind   int
	parent int

	// Of a pair alone.
	kids   [2]int
	method int
	size   uint32
	key    int
}

// What a method's bits say: which child is the measured one, whether rows are parted, and both together, the side.
const (
	secondBit = api.PaneRight
	rowsBit   = api.PaneAbove
	sideBits  = secondBit | rowsBit
)

// isScreen: can a screen have so many columns and rows?
func isScreen(w, h int) bool {
	return 0 <= w && w <= api.MaxScreen && 0 <= h && h <= api.MaxScreen
}

// isMethod: is it a side, and one of the two ways to measure?
func isMethod(method int) bool {
	way := method &^ sideBits
	return way == api.PaneFixed || way == api.PaneShare
}

// isBeside: does the method lay one child beside the other one, not above it?
func isBeside(method int) bool {
	return method&rowsBit == 0
}

// measuredChild: which child is the one that the method measures.
func measuredChild(method int) int {
	return method & secondBit
}

// at: the window of that number; nil, if there is none. It holds till a window comes or goes.
func (t *Tree) at(number int) *window {
	if t == nil {
		return nil
	}
	i, found := slices.BinarySearchFunc(t.windows, number, func(w window, n int) int { return cmp.Compare(w.number, n) })
	if !found {
		return nil
	}
	return &t.windows[i]
}

// pairAt: the pair of that number.
func (t *Tree) pairAt(number int) (*window, api.Errno) {
	if t == nil {
		return nil, api.ErrNil
	}
	p := t.at(number)
	switch {
	case p == nil:
		return nil, api.ErrNone
	case p.kind != api.PanePair:
		return nil, api.ErrArg
	}
	return p, api.OK
}

// mayOpen: why a window cannot be opened so.
func (t *Tree) mayOpen(split, method, kind int) api.Errno {
	switch {
	case t == nil:
		return api.ErrNil
	case kind != api.PaneBlank && kind != api.PaneText && kind != api.PaneGrid:
		return api.ErrArg
	case split == 0 && t.root != 0:
		return api.ErrThere
	case split == 0:
		return api.OK
	case t.at(split) == nil:
		return api.ErrNone
	case !isMethod(method):
		return api.ErrArg
	case len(t.windows)+2 > api.MaxPanes: // the window and its pair
		return api.ErrMany
	}
	return api.OK
}

// add: one window more, which lies nowhere yet; its number.
func (t *Tree) add(w window) int {
	t.last++
	w.number = t.last
	t.windows = append(t.windows, w)
	return w.number
}

// putAt: number is where old was.
func (t *Tree) putAt(old, number int) {
	parent := t.Parent(old)
	t.at(number).parent = parent
	if parent == 0 {
		t.root = number
		return
	}
	kids := &t.at(parent).kids
	kids[slices.Index(kids[:], old)] = number
}

// join: a pair's children are these; the measured one is on the side that the pair's method says.
func (t *Tree) join(pair, measured, other int) {
	p := t.at(pair)
	i := measuredChild(p.method)
	p.kids[i], p.kids[1-i] = measured, other
	for _, kid := range p.kids {
		t.at(kid).parent = pair
	}
}

// isBelow: is there such a window below the pair?
func (t *Tree) isBelow(number, pair int) bool {
	for above := t.Parent(number); above != 0; above = t.Parent(above) {
		if above == pair {
			return true
		}
	}
	return false
}

// mayBeKey: can it be the pair's key?
func (t *Tree) mayBeKey(number, pair int) bool {
	return t.isBelow(number, pair) && t.Kind(number) != api.PanePair
}

// withAllBelow: a window's number, and those of all below it.
func (t *Tree) withAllBelow(number int) []int {
	var all []int
	for _, w := range t.windows {
		if w.number == number || t.isBelow(w.number, number) {
			all = append(all, w.number)
		}
	}
	return all
}

// drop: these, which rise, are there no more, and no pair's key.
func (t *Tree) drop(gone []int) {
	isGone := func(number int) bool {
		_, found := slices.BinarySearch(gone, number)
		return found
	}
	t.windows = slices.DeleteFunc(t.windows, func(w window) bool { return isGone(w.number) })
	for i := range t.windows {
		if isGone(t.windows[i].key) {
			t.windows[i].key = 0
		}
	}
}

// place: where a window lies.
func (t *Tree) place(w *window) api.Rect {
	if w.parent == 0 {
		return api.Rect{W: t.w, H: t.h}
	}
	pair := t.at(w.parent)
	return t.parted(pair, t.place(pair))[slices.Index(pair.kids[:], w.number)]
}

// parted: where the children of a pair lie that lies at r.
func (t *Tree) parted(pair *window, r api.Rect) [2]api.Rect {
	first, second := r, r
	if isBeside(pair.method) {
		first.W = t.firstPart(pair, r.W)
		second.X, second.W = r.X+first.W, r.W-first.W
	} else {
		first.H = t.firstPart(pair, r.H)
		second.Y, second.H = r.Y+first.H, r.H-first.H
	}
	return [2]api.Rect{first, second}
}

// firstPart: how many of a pair's n columns or rows its first child has.
func (t *Tree) firstPart(pair *window, n int) int {
	m := t.measured(pair, n)
	if measuredChild(pair.method) == 0 {
		return m
	}
	return n - m
}

// measured: how many of a pair's n columns or rows its measured child has.
func (t *Tree) measured(pair *window, n int) int {
	// In 64 bits: a share's product is greater than a word can be.
	m := uint64(pair.size)
	if pair.method&api.PaneShare != 0 {
		m = uint64(n) * m / 100
	} else if kind := t.Kind(pair.key); kind == 0 || kind == api.PaneBlank {
		m = 0
	}
	return int(min(m, uint64(n)))
}
