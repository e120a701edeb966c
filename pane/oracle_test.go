package pane

import (
	"fmt"
	"math/big"
	"math/rand"
	"slices"
	"testing"

	"grotto/api"
)

// top is the greatest word.
const top = 1<<32 - 1

// all the sides, ways to measure, methods, and kinds that may be opened, as the chapter's numbers.
func sides() []int   { return []int{0, 1, 2, 3} }
func ways() []int    { return []int{16, 32} }
func methods() []int { return []int{16, 17, 18, 19, 32, 33, 34, 35} }
func kinds() []int   { return []int{1, 2, 3} }

// wrongMethods: numbers that are no methods.
func wrongMethods() []int {
	return []int{0, 1, 2, 3, 4, 8, 15, 20, 21, 24, 31, 36, 40, 47, 48, 49, 50, 51, 64, 80, 96, 16 + 256, 32 + 1<<16, 16 + 1<<32, 1 << 40, -1, -2, -13, -16, -29, -32, -35, 16 - 1<<32, -1 << 63, 1<<63 - 1}
}

// wrongKinds: numbers of which no window can be opened.
func wrongKinds() []int {
	return []int{0, 4, 5, 6, 7, 8, 16, 257, 1<<32 + 2, -1, -2, -3, -4, -1 << 63, 1<<63 - 1}
}

// wrongBounds: columns and rows that no screen has.
func wrongBounds() []int {
	return []int{-1, -2, -1000, 1001, 1002, 1 << 16, 1<<32 + 5, -1 << 63, 1<<63 - 1}
}

// someSizes: sizes with the edges among them.
func someSizes() []uint32 {
	return []uint32{0, 1, 2, 3, 5, 23, 24, 25, 33, 50, 79, 80, 81, 99, 100, 101, 150, 1000, 1001, 1 << 16, 1 << 31, top - 1, top}
}

// node is a window by the words alone: a pair knows its children, and no child its parent.
type node struct {
	number, kind  int
	first, second *node
	method        int
	size          uint32
	key           *node
}

// model is a tree by the words of P14.1 to P14.6 alone.
type model struct {
	w, h int
	root *node
	next int
}

// all: n and what is below it, in some order.
func (n *node) all() []*node {
	if n == nil {
		return nil
	}
	return slices.Concat([]*node{n}, n.first.all(), n.second.all())
}

// numbers: those of l, rising.
func numbers(l []*node) (all []int) {
	for _, n := range l {
		all = append(all, n.number)
	}
	slices.Sort(all)
	return all
}

// find: the window of that number.
func (m *model) find(number int) *node {
	for _, n := range m.root.all() {
		if n.number == number {
			return n
		}
	}
	return nil
}

// above: the pair whose child n is.
func (m *model) above(n *node) *node {
	for _, p := range m.root.all() {
		if n != nil && (p.first == n || p.second == n) {
			return p
		}
	}
	return nil
}

// hold: where a window is held, by the root or by its parent.
func (m *model) hold(n *node) **node {
	p := m.above(n)
	switch {
	case p == nil:
		return &m.root
	case p.first == n:
		return &p.first
	}
	return &p.second
}

func (m *model) open(split, method int, size uint32, kind int) (int, api.Errno) {
	at := m.find(split)
	there := len(m.root.all())
	switch {
	case !slices.Contains(kinds(), kind):
		return 0, api.ErrArg
	case split == 0 && there > 0:
		return 0, api.ErrThere
	case split != 0 && at == nil:
		return 0, api.ErrNone
	case split != 0 && !slices.Contains(methods(), method):
		return 0, api.ErrArg
	case there == 64 || split != 0 && there == 63:
		return 0, api.ErrMany
	}
	n := &node{number: m.next, kind: kind}
	m.next++
	if split == 0 {
		m.root = n
		return n.number, api.OK
	}
	held := m.hold(at)
	p := &node{number: m.next, kind: 4, first: at, second: n, method: method, size: size, key: n}
	m.next++
	if method%16 == 0 || method%16 == 2 {
		p.first, p.second = n, at
	}
	*held = p
	return n.number, api.OK
}

func (m *model) close(win int) ([]int, api.Errno) {
	n := m.find(win)
	if n == nil {
		return nil, api.ErrNone
	}
	gone := n.all()
	if p := m.above(n); p == nil {
		m.root = nil
	} else {
		left := p.first
		if left == n {
			left = p.second
		}
		*m.hold(p) = left
		gone = append(gone, p)
	}
	for _, p := range m.root.all() {
		if slices.Contains(gone, p.key) {
			p.key = nil
		}
	}
	return numbers(gone), api.OK
}

func (m *model) arrange(pair, method int, size uint32, key int) api.Errno {
	p := m.find(pair)
	if p == nil {
		return api.ErrNone
	}
	if p.kind != 4 || !slices.Contains(methods(), method) {
		return api.ErrArg
	}
	if (method%16 < 2) != (p.method%16 < 2) {
		return api.ErrArg
	}
	if key != 0 {
		at := slices.IndexFunc(p.all(), func(n *node) bool { return n.number == key && n.kind != 4 })
		if at < 0 {
			return api.ErrArg
		}
		p.key = p.all()[at]
	}
	p.method, p.size = method, size
	return api.OK
}

func (m *model) resize(w, h int) api.Errno {
	if w < 0 || w > 1000 || h < 0 || h > 1000 {
		return api.ErrArg
	}
	m.w, m.h = w, h
	return api.OK
}

// partOf: how many of n the pair p measures.
func (p *node) partOf(n int) int {
	x := big.NewInt(int64(p.size))
	if p.method >= 32 {
		x.Mul(x, big.NewInt(int64(n)))
		x.Quo(x, big.NewInt(100))
	} else if p.key == nil || p.key.kind == 1 {
		return 0
	}
	if x.Cmp(big.NewInt(int64(n))) > 0 {
		return n
	}
	return int(x.Int64())
}

// lay: where n lies, and all below it, if it lies at x, y with w columns and h rows.
func (n *node) lay(x, y, w, h int, at map[int]api.Rect) {
	if n == nil {
		return
	}
	at[n.number] = api.Rect{X: x, Y: y, W: w, H: h}
	if n.kind != 4 {
		return
	}
	switch n.method % 16 {
	case 0:
		m := n.partOf(w)
		n.first.lay(x, y, m, h, at)
		n.second.lay(x+m, y, w-m, h, at)
	case 1:
		m := n.partOf(w)
		n.first.lay(x, y, w-m, h, at)
		n.second.lay(x+w-m, y, m, h, at)
	case 2:
		m := n.partOf(h)
		n.first.lay(x, y, w, m, at)
		n.second.lay(x, y+m, w, h-m, at)
	case 3:
		m := n.partOf(h)
		n.first.lay(x, y, w, h-m, at)
		n.second.lay(x, y+h-m, w, m, at)
	}
}

// about is all that is told of one number.
type about struct {
	number, kind, parent, sibling int
	kids                          [2]int
	rect                          api.Rect
	there                         bool
	method                        int
	size                          uint32
	key                           int
	e                             api.Errno
}

// told is all that a tree tells.
type told struct {
	root    int
	windows []int
	each    []about
}

// probes: the numbers of which it is asked: all that were given, and some that were not.
func probes(next int) []int {
	l := []int{-1 << 63, -2, -1, 1 << 32, 1<<32 + 1, 1<<63 - 1}
	for number := range next + 3 {
		l = append(l, number)
	}
	return l
}

// tell: all that s tells, with that the next number.
func tell(s *Tree, next int) told {
	all := told{root: s.Root(), windows: s.Windows()}
	for _, number := range probes(next) {
		a := about{number: number, kind: s.Kind(number), parent: s.Parent(number), sibling: s.Sibling(number)}
		a.kids[0], a.kids[1] = s.Kids(number)
		a.rect, a.there = s.Rect(number)
		a.method, a.size, a.key, a.e = s.Arrangement(number)
		all.each = append(all.each, a)
	}
	return all
}

// numberOf: a window's number, 0 of none.
func numberOf(n *node) int {
	if n == nil {
		return 0
	}
	return n.number
}

// family: who lies above each window, and beside it.
func (m *model) family() (there, above, beside map[int]*node) {
	there, above, beside = map[int]*node{}, map[int]*node{}, map[int]*node{}
	for _, n := range m.root.all() {
		there[n.number] = n
		if n.kind == 4 {
			above[n.first.number], above[n.second.number] = n, n
			beside[n.first.number], beside[n.second.number] = n.second, n.first
		}
	}
	return there, above, beside
}

// tell: all that m tells, by the words.
func (m *model) tell() told {
	all := told{root: numberOf(m.root), windows: numbers(m.root.all())}
	at := map[int]api.Rect{}
	m.root.lay(0, 0, m.w, m.h, at)
	there, above, beside := m.family()
	for _, number := range probes(m.next) {
		a := about{number: number, e: api.ErrNone}
		if n := there[number]; n != nil {
			a.kind, a.rect, a.there, a.e = n.kind, at[number], true, api.ErrArg
			a.parent, a.sibling = numberOf(above[number]), numberOf(beside[number])
			if n.kind == 4 {
				a.kids = [2]int{n.first.number, n.second.number}
				a.method, a.size, a.key, a.e = n.method, n.size, numberOf(n.key), api.OK
			}
		}
		all.each = append(all.each, a)
	}
	return all
}

// expectSame: two tell the same.
func expectSame(t *testing.T, what string, is, want told) {
	t.Helper()
	if is.root != want.root || !slices.Equal(is.windows, want.windows) {
		t.Fatalf("%s: root %d of %v, not %d of %v", what, is.root, is.windows, want.root, want.windows)
	}
	for i := range want.each {
		if is.each[i] != want.each[i] {
			t.Fatalf("%s: %+v, not %+v", what, is.each[i], want.each[i])
		}
	}
}

// expectModel: s is as m is.
func expectModel(t *testing.T, what string, s *Tree, m *model) {
	t.Helper()
	expectSame(t, what, tell(s, m.next), m.tell())
}

// both is a tree and the same by the words; each call is made on both of them.
type both struct {
	t *testing.T
	s *Tree
	m *model
}

// begin: a screen without a window.
func begin(t *testing.T, w, h int) *both {
	t.Helper()
	s, e := New(w, h)
	if s == nil || e != api.OK {
		t.Fatalf("New(%d, %d) = %v, %d", w, h, s, e)
	}
	b := &both{t, s, &model{w: w, h: h, next: 1}}
	expectModel(t, "new", s, b.m)
	return b
}

func (b *both) open(split, method int, size uint32, kind int) (int, api.Errno) {
	b.t.Helper()
	what := fmt.Sprintf("Open(%d, %d, %d, %d)", split, method, size, kind)
	want, f := b.m.open(split, method, size, kind)
	win, e := b.s.Open(split, method, size, kind)
	if win != want || e != f {
		b.t.Fatalf("%s = %d, %d; not %d, %d", what, win, e, want, f)
	}
	expectModel(b.t, what, b.s, b.m)
	return win, e
}

func (b *both) close(win int) ([]int, api.Errno) {
	b.t.Helper()
	want, f := b.m.close(win)
	gone, e := b.s.Close(win)
	if !slices.Equal(gone, want) || e != f {
		b.t.Fatalf("Close(%d) = %v, %d; not %v, %d", win, gone, e, want, f)
	}
	expectModel(b.t, fmt.Sprintf("Close(%d)", win), b.s, b.m)
	return gone, e
}

func (b *both) arrange(pair, method int, size uint32, key int) api.Errno {
	b.t.Helper()
	what := fmt.Sprintf("Arrange(%d, %d, %d, %d)", pair, method, size, key)
	f := b.m.arrange(pair, method, size, key)
	e := b.s.Arrange(pair, method, size, key)
	if e != f {
		b.t.Fatalf("%s = %d, not %d", what, e, f)
	}
	expectModel(b.t, what, b.s, b.m)
	return e
}

func (b *both) resize(w, h int) api.Errno {
	b.t.Helper()
	f := b.m.resize(w, h)
	e := b.s.Resize(w, h)
	if e != f {
		b.t.Fatalf("Resize(%d, %d) = %d, not %d", w, h, e, f)
	}
	expectModel(b.t, fmt.Sprintf("Resize(%d, %d)", w, h), b.s, b.m)
	return e
}

// opened: Open answers that number.
func (b *both) opened(split, method int, size uint32, kind, want int) {
	b.t.Helper()
	if win, e := b.open(split, method, size, kind); win != want || e != api.OK {
		b.t.Fatalf("Open(%d, %d, %d, %d) = %d, %d; not %d", split, method, size, kind, win, e, want)
	}
}

// notOpened: Open answers that error.
func (b *both) notOpened(split, method int, size uint32, kind int, want api.Errno) {
	b.t.Helper()
	if win, e := b.open(split, method, size, kind); win != 0 || e != want {
		b.t.Fatalf("Open(%d, %d, %d, %d) = %d, %d; not the error %d", split, method, size, kind, win, e, want)
	}
}

// closed: Close answers these.
func (b *both) closed(win int, want ...int) {
	b.t.Helper()
	if gone, e := b.close(win); !slices.Equal(gone, want) || e != api.OK {
		b.t.Fatalf("Close(%d) = %v, %d; not %v", win, gone, e, want)
	}
}

// arranged: Arrange answers e.
func (b *both) arranged(pair, method int, size uint32, key int, want api.Errno) {
	b.t.Helper()
	if e := b.arrange(pair, method, size, key); e != want {
		b.t.Fatalf("Arrange(%d, %d, %d, %d) = %d, not %d", pair, method, size, key, e, want)
	}
}

// resized: Resize answers e.
func (b *both) resized(w, h int, want api.Errno) {
	b.t.Helper()
	if e := b.resize(w, h); e != want {
		b.t.Fatalf("Resize(%d, %d) = %d, not %d", w, h, e, want)
	}
}

// lies: Rect answers that.
func (b *both) lies(win, x, y, w, h int) {
	b.t.Helper()
	if r, ok := b.s.Rect(win); r != (api.Rect{X: x, Y: y, W: w, H: h}) || !ok {
		b.t.Fatalf("Rect(%d) = %+v, %t; not %d, %d, %d, %d", win, r, ok, x, y, w, h)
	}
}

// keyed: the pair's method, size and key are these.
func (b *both) keyed(pair, method int, size uint32, key int) {
	b.t.Helper()
	if m, n, k, e := b.s.Arrangement(pair); m != method || n != size || k != key || e != api.OK {
		b.t.Fatalf("Arrangement(%d) = %d, %d, %d, %d; not %d, %d, %d", pair, m, n, k, e, method, size, key)
	}
}

// someOf: one of these by chance.
func someOf[T any](r *rand.Rand, l ...T) T {
	return l[r.Intn(len(l))]
}

// someWindow: the number of a window by chance, or, now and then, of none.
func (b *both) someWindow(r *rand.Rand) int {
	l := b.s.Windows()
	if len(l) == 0 || r.Intn(20) == 0 {
		return someOf(r, probes(b.m.next)...)
	}
	return someOf(r, l...)
}

// somePair: the number of a pair by chance, if there is one.
func (b *both) somePair(r *rand.Rand) int {
	var l []int
	for _, n := range b.m.root.all() {
		if n.kind == 4 {
			l = append(l, n.number)
		}
	}
	if len(l) == 0 || r.Intn(20) == 0 {
		return b.someWindow(r)
	}
	return someOf(r, l...)
}

// someSize: a size by chance, mostly one that a screen has.
func someSize(r *rand.Rand) uint32 {
	return someOf(r, uint32(r.Intn(30)), uint32(r.Intn(101)), uint32(r.Intn(101)), someOf(r, someSizes()...), r.Uint32())
}

// someMethod: a method by chance, or, now and then, what is none.
func someMethod(r *rand.Rand) int {
	if r.Intn(20) == 0 {
		return someOf(r, wrongMethods()...)
	}
	return someOf(r, methods()...)
}

// someOpen: a window is opened by chance, or is refused.
func (b *both) someOpen(r *rand.Rand) (win, split int, e api.Errno) {
	b.t.Helper()
	kind := someOf(r, kinds()...)
	if r.Intn(30) == 0 {
		kind = someOf(r, wrongKinds()...)
	}
	split = b.someWindow(r)
	if b.s.Root() == 0 && r.Intn(4) > 0 {
		split = 0
	}
	win, e = b.open(split, someMethod(r), someSize(r), kind)
	return win, split, e
}

// someArrange: a pair is arranged by chance, or is refused; often with a key that is below it, often with none.
func (b *both) someArrange(r *rand.Rand) api.Errno {
	b.t.Helper()
	pair, method, key := b.somePair(r), someMethod(r), b.someWindow(r)
	if p := b.m.find(pair); p != nil && p.kind == 4 && r.Intn(6) > 0 {
		method = someOf(r, ways()...) + p.method&2 + r.Intn(2)
		key = someOf(r, p.all()...).number
	}
	if r.Intn(4) == 0 {
		key = 0
	}
	return b.arrange(pair, method, someSize(r), key)
}

// someResize: another screen by chance, or none.
func (b *both) someResize(r *rand.Rand) api.Errno {
	b.t.Helper()
	bound := func() int {
		return someOf(r, r.Intn(1001), r.Intn(100), r.Intn(5), 0, 1, 1000, someOf(r, wrongBounds()...))
	}
	return b.resize(bound(), bound())
}

// someCall: one call by chance on both.
func (b *both) someCall(r *rand.Rand) {
	b.t.Helper()
	switch r.Intn(12) {
	default:
		b.someOpen(r)
	case 0, 1:
		b.close(b.someWindow(r))
	case 2, 3, 4:
		b.someArrange(r)
	case 5:
		b.someResize(r)
	}
}

// someTree: a tree by chance, after so many calls.
func someTree(t *testing.T, r *rand.Rand, calls int) *both {
	t.Helper()
	b := begin(t, someOf(r, 80, 1000, 0, r.Intn(40)), someOf(r, 24, 1000, 0, r.Intn(40)))
	for range calls {
		b.someCall(r)
	}
	return b
}

// full: a tree of 63 windows, of which none fits more.
func full(t *testing.T, r *rand.Rand) *both {
	t.Helper()
	b := begin(t, 200, 100)
	b.opened(0, 0, 0, 2, 1)
	for len(b.s.Windows()) < 63 {
		b.open(someOf(r, b.s.Windows()...), someOf(r, methods()...), someSize(r), someOf(r, kinds()...))
	}
	return b
}
