package pane

import (
	"math/rand"
	"testing"

	"grotto/api"
)

// P14.7

// leaves: where the windows lie that are no pairs.
func (b *both) leaves() (l []api.Rect) {
	for _, win := range b.s.Windows() {
		if r, ok := b.s.Rect(win); ok && b.s.Kind(win) != api.PanePair {
			l = append(l, r)
		}
	}
	return l
}

// covers: does r have the column x of the row y?
func covers(r api.Rect, x, y int) bool {
	return r.X <= x && x < r.X+r.W && r.Y <= y && y < r.Y+r.H
}

// expectOne: how many windows each of these places lies in.
func (b *both) expectOne(x, y int) {
	b.t.Helper()
	n := 0
	for _, r := range b.leaves() {
		if covers(r, x, y) {
			n++
		}
	}
	if n != 1 {
		b.t.Fatalf("%d, %d lies in %d windows: %+v", x, y, n, b.leaves())
	}
}

// expectWhole: the windows have as many places in all as the screen, and none of them reaches out of it.
func (b *both) expectWhole() {
	b.t.Helper()
	places := 0
	for _, r := range b.leaves() {
		places += r.W * r.H
		if r.X < 0 || r.Y < 0 || r.W < 0 || r.H < 0 || r.X+r.W > b.m.w || r.Y+r.H > b.m.h {
			b.t.Fatalf("%+v of %d, %d", r, b.m.w, b.m.h)
		}
	}
	if b.s.Root() != 0 && places != b.m.w*b.m.h {
		b.t.Fatalf("%d places of %d, %d: %+v", places, b.m.w, b.m.h, b.leaves())
	}
}

func TestEachPlaceIsInOneWindow(t *testing.T) {
	r := rand.New(rand.NewSource(147))
	for range 150 {
		b := someTree(t, r, 0)
		for range 50 {
			b.someCall(r)
			b.expectWhole()
			for range 5 {
				if b.s.Root() != 0 && b.m.w > 0 && b.m.h > 0 {
					b.expectOne(r.Intn(b.m.w), r.Intn(b.m.h))
				}
			}
		}
	}
}

func TestEachPlaceOfASmallScreenIsInOneWindow(t *testing.T) {
	r := rand.New(rand.NewSource(1477))
	for range 60 {
		b := full(t, r)
		for range 10 {
			b.someCall(r)
			b.resized(r.Intn(14), r.Intn(14), api.OK)
			b.expectWhole()
			for x := range b.m.w {
				for y := range b.m.h {
					if b.s.Root() != 0 {
						b.expectOne(x, y)
					}
				}
			}
		}
	}
}

// P14.8

func TestOpenedAndClosedAtOnce(t *testing.T) {
	r := rand.New(rand.NewSource(148))
	opened := 0
	for range 300 {
		b := someTree(t, r, r.Intn(60))
		for range 5 {
			next, w, h := b.m.next, b.m.w, b.m.h
			was := tell(b.s, next)
			if win, split, e := b.someOpen(r); e == api.OK {
				opened++
				// A screen that is another one between does not matter.
				b.resized(r.Intn(100), r.Intn(100), api.OK)
				b.resized(w, h, api.OK)
				if split == 0 {
					b.closed(win, win)
				} else {
					b.closed(win, win, win+1)
				}
			}
			expectSame(t, "opened and closed", tell(b.s, next), was)
		}
	}
	if opened < 1000 {
		t.Errorf("only %d were opened", opened)
	}
}

// renumbered: what is told, as if the two numbers from next on had never been given.
func (a told) renumbered(next int) told {
	back := func(number int) int {
		if number >= next+2 && number < 1<<32 {
			return number - 2
		}
		return number
	}
	is := told{root: back(a.root)}
	for _, win := range a.windows {
		is.windows = append(is.windows, back(win))
	}
	for _, x := range a.each {
		if x.number == next || x.number == next+1 {
			continue
		}
		x.number, x.parent, x.sibling, x.key = back(x.number), back(x.parent), back(x.sibling), back(x.key)
		x.kids = [2]int{back(x.kids[0]), back(x.kids[1])}
		is.each = append(is.each, x)
	}
	return is
}

func TestClosedIsAsNeverOpened(t *testing.T) {
	r := rand.New(rand.NewSource(1488))
	for range 150 {
		seed, calls := r.Int63(), r.Intn(40)
		never := someTree(t, rand.New(rand.NewSource(seed)), calls)
		closed := someTree(t, rand.New(rand.NewSource(seed)), calls)
		next := never.m.next
		win, split, e := closed.someOpen(r)
		if e != api.OK || split == 0 {
			continue
		}
		// Others are opened and arranged meanwhile, with no regard to it.
		for range r.Intn(12) {
			at := someOf(r, never.s.Windows()...)
			there := at
			if at >= next {
				there += 2
			}
			method, size, kind := someOf(r, methods()...), someSize(r), someOf(r, kinds()...)
			if len(closed.s.Windows()) < 63 && r.Intn(3) > 0 {
				never.open(at, method, size, kind)
				closed.open(there, method, size, kind)
			} else {
				never.arrange(at, method, size, 0)
				closed.arrange(there, method, size, 0)
			}
		}
		closed.closed(win, win, win+1)
		expectSame(t, "as never opened", tell(closed.s, closed.m.next).renumbered(next), tell(never.s, never.m.next))
	}
}

// P14.9

func TestAsManyPairs(t *testing.T) {
	r := rand.New(rand.NewSource(149))
	for range 200 {
		b := someTree(t, r, 0)
		for range 80 {
			b.someCall(r)
			pairs, others := 0, 0
			for _, win := range b.s.Windows() {
				if b.s.Kind(win) == api.PanePair {
					pairs++
				} else {
					others++
				}
			}
			if others != 0 && pairs != others-1 || others == 0 && pairs != 0 || pairs+others >= api.MaxPanes {
				t.Fatalf("%d pairs, %d others", pairs, others)
			}
		}
	}
}

// P14.10

// under: is a window the other one, or below it?
func under(s *Tree, win, above int) bool {
	for ; win != 0; win = s.Parent(win) {
		if win == above {
			return true
		}
	}
	return false
}

// order is how one window lies to another one: 0 where one is below the other, else 1 to the left, 2 to the right, 3 above, 4 below.
func order(s *Tree, a, b int) int {
	if under(s, a, b) || under(s, b, a) {
		return 0
	}
	pair := s.Parent(a)
	for !under(s, b, pair) {
		pair = s.Parent(pair)
	}
	first, _ := s.Kids(pair)
	method, _, _, _ := s.Arrangement(pair)
	n := 1 + method%16/2*2
	if !under(s, a, first) {
		n++
	}
	return n
}

// orders: how each window lies to each other one.
func orders(s *Tree) map[[2]int]int {
	all := map[[2]int]int{}
	for _, a := range s.Windows() {
		for _, b := range s.Windows() {
			all[[2]int{a, b}] = order(s, a, b)
		}
	}
	return all
}

// expectOrders: what lies to the left of another window, or above it, is there on the screen, too.
func expectOrders(t *testing.T, s *Tree) {
	t.Helper()
	for _, a := range s.Windows() {
		for _, b := range s.Windows() {
			p, _ := s.Rect(a)
			q, _ := s.Rect(b)
			switch order(s, a, b) {
			case 1:
				if p.X+p.W > q.X {
					t.Fatalf("%d at %+v is not to the left of %d at %+v", a, p, b, q)
				}
			case 3:
				if p.Y+p.H > q.Y {
					t.Fatalf("%d at %+v is not above %d at %+v", a, p, b, q)
				}
			}
		}
	}
}

func TestNoCallTurnsChildren(t *testing.T) {
	r := rand.New(rand.NewSource(1410))
	for range 40 {
		b := someTree(t, r, r.Intn(40))
		was := orders(b.s)
		for range 40 {
			switch r.Intn(3) {
			case 0:
				b.someOpen(r)
			case 1:
				b.someArrange(r)
			case 2:
				b.someResize(r)
			}
			is := orders(b.s)
			for two, n := range was {
				// A pair that was opened is above what it has taken the place of: no two are parted by that.
				if is[two] != n {
					t.Fatalf("%v: %d, not %d", two, is[two], n)
				}
			}
			was = is
			expectOrders(t, b.s)
		}
	}
}

// P14.11

func TestRefusedChangesNothing(t *testing.T) {
	r := rand.New(rand.NewSource(1411))
	refused := map[api.Errno]int{}
	for range 150 {
		b := someTree(t, r, r.Intn(60))
		if r.Intn(5) == 0 {
			b = full(t, r)
		}
		next, screen := b.m.next, [2]int{b.m.w, b.m.h}
		was := tell(b.s, next)
		for range 60 {
			e := b.refusedCall(r)
			refused[e]++
			expectSame(t, "refused", tell(b.s, next), was)
		}
		// Nor the numbers, nor the screen, which are seen later.
		b.close(b.s.Root())
		b.opened(0, 0, 0, api.PaneText, next)
		b.lies(next, 0, 0, screen[0], screen[1])
	}
	for _, e := range []api.Errno{api.ErrArg, api.ErrMany, api.ErrNone, api.ErrThere} {
		if refused[e] < 50 {
			t.Errorf("the error %d came %d times", e, refused[e])
		}
	}
}

// refusedCall: a call by chance that is refused, on the tree alone.
func (b *both) refusedCall(r *rand.Rand) api.Errno {
	none, root := someOf(r, -1, b.m.next, b.m.next+1, 1<<40), b.s.Root()
	win := someOf(r, append(b.s.Windows(), none)...)
	right, wrong := someOf(r, methods()...), someOf(r, wrongMethods()...)
	open := func(split, method, kind int) func() api.Errno {
		return func() api.Errno {
			_, e := b.s.Open(split, method, 3, kind)
			return e
		}
	}
	arrange := func(pair, method, key int) func() api.Errno {
		return func() api.Errno { return b.s.Arrange(pair, method, 3, key) }
	}
	calls := []func() api.Errno{
		open(someOf(r, win, none, 0), right, someOf(r, wrongKinds()...)),
		open(none, right, api.PaneText),
		open(win, wrong, api.PaneText),
		arrange(win, wrong, 0),
		arrange(win, right, none),
		arrange(none, right, 0),
		func() api.Errno {
			_, e := b.s.Close(someOf(r, none, 0))
			return e
		},
		func() api.Errno { return b.s.Resize(someOf(r, wrongBounds()...), 5) },
		func() api.Errno { return b.s.Resize(5, someOf(r, wrongBounds()...)) },
	}
	if root != 0 {
		calls = append(calls, open(0, right, api.PaneText), arrange(win, right, root))
	}
	if len(b.s.Windows()) == 63 {
		calls = append(calls, open(root, right, api.PaneText), open(b.s.Windows()[0], right, api.PaneGrid))
	}
	return someOf(r, calls...)()
}
