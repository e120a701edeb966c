package pane

import (
	"math/rand"
	"slices"
	"testing"

	"grotto/api"
)

// P14.1

func TestNew(t *testing.T) {
	for _, w := range []int{0, 1, 2, 80, 999, 1000} {
		for _, h := range []int{0, 1, 2, 24, 999, 1000} {
			b := begin(t, w, h)
			if b.s.Root() != 0 || len(b.s.Windows()) != 0 {
				t.Errorf("New(%d, %d) has the root %d, the windows %v", w, h, b.s.Root(), b.s.Windows())
			}
			b.opened(0, 0, 0, api.PaneText, 1)
			b.lies(1, 0, 0, w, h)
		}
	}
}

func TestNewOfNoScreen(t *testing.T) {
	for _, wrong := range wrongBounds() {
		for _, other := range append(wrongBounds(), 0, 1, 80, 1000) {
			for _, c := range [][2]int{{wrong, other}, {other, wrong}} {
				if s, e := New(c[0], c[1]); s != nil || e != api.ErrArg {
					t.Errorf("New(%d, %d) = %v, %d", c[0], c[1], s, e)
				}
			}
		}
	}
}

func TestRootAndWindows(t *testing.T) {
	b := begin(t, 80, 24)
	expect := func(root int, windows ...int) {
		t.Helper()
		if b.s.Root() != root || !slices.Equal(b.s.Windows(), windows) {
			t.Fatalf("root %d of %v, not %d of %v", b.s.Root(), b.s.Windows(), root, windows)
		}
	}
	expect(0)
	b.opened(0, 0, 0, api.PaneText, 1)
	expect(1, 1)
	b.opened(1, api.PaneLeft+api.PaneFixed, 3, api.PaneGrid, 2)
	expect(3, 1, 2, 3)
	// Below the root, it stays.
	b.opened(1, api.PaneBelow+api.PaneFixed, 3, api.PaneGrid, 4)
	expect(3, 1, 2, 3, 4, 5)
	// Beside the root, it is another one.
	b.opened(3, api.PaneBelow+api.PaneFixed, 3, api.PaneBlank, 6)
	expect(7, 1, 2, 3, 4, 5, 6, 7)
	b.closed(6, 6, 7)
	expect(3, 1, 2, 3, 4, 5)
	b.closed(2, 2, 3)
	expect(5, 1, 4, 5)
	b.closed(1, 1, 5)
	expect(4, 4)
	b.closed(4, 4)
	expect(0)
}

func TestAnswersAreNewMemory(t *testing.T) {
	b := begin(t, 80, 24)
	b.opened(0, 0, 0, api.PaneText, 1)
	for i, method := range methods() {
		b.opened(1, method, 3, api.PaneGrid, 2+2*i)
	}
	l, again := b.s.Windows(), b.s.Windows()
	spoil(l)
	expectModel(t, "windows that are written over", b.s, b.m)
	first, _ := b.close(16)
	second, _ := b.close(14)
	spoil(second)
	expectModel(t, "what is gone and is written over", b.s, b.m)
	b.opened(1, 16, 3, api.PaneGrid, 18)
	if len(again) != 17 || again[16] != 17 || !slices.Equal(first, []int{16, 17}) {
		t.Errorf("what was told has changed: %v, %v", again, first)
	}
	spoil(first)
	spoil(again)
	b.opened(1, 16, 3, api.PaneGrid, 20)
}

// spoil: writes over a list, its spare room too.
func spoil(l []int) {
	l = l[:cap(l)]
	for i := range l {
		l[i] = 77
	}
}

// P14.1 to P14.3, P14.6: the chapter's examples

func TestExample(t *testing.T) {
	b := begin(t, 80, 24)
	b.opened(0, 0, 0, api.PaneText, 1)
	b.opened(1, api.PaneAbove+api.PaneFixed, 3, api.PaneGrid, 2)
	if b.s.Root() != 3 || b.s.Kind(3) != api.PanePair {
		t.Errorf("the root is %d, of the kind %d", b.s.Root(), b.s.Kind(3))
	}
	b.lies(2, 0, 0, 80, 3)
	b.lies(1, 0, 3, 80, 21)
	b.opened(1, api.PaneRight+api.PaneShare, 25, api.PaneText, 4)
	if b.s.Parent(4) != 5 || b.s.Kind(5) != api.PanePair {
		t.Errorf("the parent is %d, of the kind %d", b.s.Parent(4), b.s.Kind(5))
	}
	b.lies(4, 60, 3, 20, 21)
	b.lies(1, 0, 3, 60, 21)
	b.lies(5, 0, 3, 80, 21)
	b.closed(2, 2, 3)
	b.lies(1, 0, 0, 60, 24)
	b.lies(4, 60, 0, 20, 24)
}

// P14.2

func TestOpenTheRoot(t *testing.T) {
	// A method and a size do not matter where nothing is split.
	for _, method := range append(wrongMethods(), methods()...) {
		for _, size := range []uint32{0, 3, 100, top} {
			for _, kind := range kinds() {
				b := begin(t, 80, 24)
				b.opened(0, method, size, kind, 1)
				if b.s.Kind(1) != kind || b.s.Root() != 1 || b.s.Parent(1) != 0 {
					t.Errorf("kind %d, root %d, parent %d", b.s.Kind(1), b.s.Root(), b.s.Parent(1))
				}
				b.lies(1, 0, 0, 80, 24)
			}
		}
	}
}

func TestOpenOnEachSide(t *testing.T) {
	for _, method := range methods() {
		for _, kind := range kinds() {
			for _, size := range someSizes() {
				b := begin(t, 80, 24)
				b.opened(0, 0, 0, api.PaneText, 1)
				b.opened(1, method, size, kind, 2)
				first, second := b.s.Kids(3)
				side := method % 16
				isFirst := side == api.PaneLeft || side == api.PaneAbove
				if isFirst && (first != 2 || second != 1) || !isFirst && (first != 1 || second != 2) {
					t.Errorf("method %d: the children are %d, %d", method, first, second)
				}
				b.keyed(3, method, size, 2)
			}
		}
	}
}

func TestOpenWhereTheSplitWas(t *testing.T) {
	// A first child, a second one, and a pair are split: what is beside them stays.
	for _, method := range methods() {
		for _, split := range []int{1, 2, 3, 4, 5} {
			b := begin(t, 80, 24)
			b.opened(0, 0, 0, api.PaneText, 1)
			b.opened(1, api.PaneAbove+api.PaneFixed, 5, api.PaneGrid, 2)
			b.opened(2, api.PaneRight+api.PaneShare, 50, api.PaneText, 4)
			parent, sibling := b.s.Parent(split), b.s.Sibling(split)
			first, second := b.s.Kids(parent)
			r, _ := b.s.Rect(split)
			b.opened(split, method, 7, api.PaneText, 6)
			if b.s.Parent(7) != parent || b.s.Sibling(7) != sibling || b.s.Parent(split) != 7 || b.s.Sibling(split) != 6 {
				t.Errorf("the pair is not where %d was", split)
			}
			b.lies(7, r.X, r.Y, r.W, r.H)
			if first == split {
				first = 7
			} else if second == split {
				second = 7
			}
			if f, s := b.s.Kids(parent); f != first || s != second {
				t.Errorf("the children are %d, %d; not %d, %d", f, s, first, second)
			}
		}
	}
}

func TestOpenErrors(t *testing.T) {
	for _, kind := range wrongKinds() {
		// With no window, and ahead of all other errors.
		begin(t, 80, 24).notOpened(0, 16, 3, kind, api.ErrArg)
		begin(t, 80, 24).notOpened(1, 0, 3, kind, api.ErrArg)
		b := begin(t, 80, 24)
		b.opened(0, 0, 0, api.PaneText, 1)
		for _, split := range []int{0, 1, 2, -1} {
			for _, method := range []int{0, 16, 48} {
				b.notOpened(split, method, 3, kind, api.ErrArg)
			}
		}
		b.opened(1, 16, 3, api.PaneText, 2)
	}
	for _, method := range append(wrongMethods(), methods()...) {
		b := begin(t, 80, 24)
		for _, split := range []int{1, 2, -1, 1 << 32, 1<<63 - 1, -1 << 63} {
			b.notOpened(split, method, 3, api.PaneText, api.ErrNone)
		}
		b.opened(0, 0, 0, api.PaneText, 1)
		for _, split := range []int{2, 3, -1, 1 << 32, 1<<32 + 1, 1<<63 - 1, -1 << 63} {
			b.notOpened(split, method, 3, api.PaneText, api.ErrNone)
		}
		b.notOpened(0, method, 3, api.PaneText, api.ErrThere)
	}
	for _, method := range wrongMethods() {
		b := begin(t, 80, 24)
		b.opened(0, 0, 0, api.PaneText, 1)
		b.notOpened(1, method, 3, api.PaneText, api.ErrArg)
		b.opened(1, 16, 3, api.PaneText, 2)
		for _, split := range []int{1, 2, 3} {
			b.notOpened(split, method, 3, api.PaneText, api.ErrArg)
		}
		b.closed(2, 2, 3)
		for _, split := range []int{2, 3} {
			b.notOpened(split, method, 3, api.PaneText, api.ErrNone)
		}
	}
}

func TestOpenMany(t *testing.T) {
	r := rand.New(rand.NewSource(142))
	for range 10 {
		b := full(t, r)
		if len(b.s.Windows()) != api.MaxPanes-1 {
			t.Fatalf("%d windows", len(b.s.Windows()))
		}
		for _, split := range b.s.Windows() {
			b.notOpened(split, someOf(r, methods()...), 3, someOf(r, kinds()...), api.ErrMany)
		}
		// All other errors come first.
		b.notOpened(1, 16, 3, 0, api.ErrArg)
		b.notOpened(0, 16, 3, api.PaneText, api.ErrThere)
		b.notOpened(64, 16, 3, api.PaneText, api.ErrNone)
		b.notOpened(-1, 16, 3, api.PaneText, api.ErrNone)
		b.notOpened(1, 0, 3, api.PaneText, api.ErrArg)
		// One that is closed makes room for one more, and for no other.
		b.close(2)
		left := b.s.Windows()
		if len(left) < 61 {
			b.opened(someOf(r, left...), 17, 3, api.PaneGrid, 64)
			continue
		}
		b.opened(left[0], 17, 3, api.PaneGrid, 64)
		b.notOpened(left[0], 17, 3, api.PaneGrid, api.ErrMany)
	}
}

func TestOpenADeepTree(t *testing.T) {
	// 32 windows, each one below one pair more.
	for _, method := range methods() {
		b := begin(t, 1000, 1000)
		b.opened(0, 0, 0, api.PaneText, 1)
		for win := 2; win <= 62; win += 2 {
			b.opened(max(win-2, 1), method, 60, api.PaneText, win)
		}
		b.notOpened(62, method, 60, api.PaneText, api.ErrMany)
		b.closed(62, 62, 63)
		b.opened(60, method, 60, api.PaneText, 64)
		b.resized(7, 3, api.OK)
	}
}

func TestNumbersAreNeverGivenAgain(t *testing.T) {
	b := begin(t, 80, 24)
	for i := range 40 {
		b.opened(0, 0, 0, api.PaneText, 1+5*i)
		b.opened(1+5*i, 16, 3, api.PaneGrid, 2+5*i)
		b.opened(3+5*i, 33, 3, api.PaneGrid, 4+5*i)
		b.closed(5+5*i, 1+5*i, 2+5*i, 3+5*i, 4+5*i, 5+5*i)
	}
}

// P14.3

func TestClose(t *testing.T) {
	// Seven windows: the root 3 of (5 of 1 and 4) and (7 of 2 and 6).
	four := func() *both {
		b := begin(t, 80, 24)
		b.opened(0, 0, 0, api.PaneText, 1)
		b.opened(1, api.PaneRight+api.PaneFixed, 30, api.PaneText, 2)
		b.opened(1, api.PaneBelow+api.PaneFixed, 10, api.PaneText, 4)
		b.opened(2, api.PaneAbove+api.PaneFixed, 20, api.PaneText, 6)
		return b
	}
	for _, c := range []struct {
		win, root  int
		gone, left []int
	}{
		{1, 3, []int{1, 5}, []int{2, 3, 4, 6, 7}},
		{2, 3, []int{2, 7}, []int{1, 3, 4, 5, 6}},
		{4, 3, []int{4, 5}, []int{1, 2, 3, 6, 7}},
		{6, 3, []int{6, 7}, []int{1, 2, 3, 4, 5}},
		{5, 7, []int{1, 3, 4, 5}, []int{2, 6, 7}},
		{7, 5, []int{2, 3, 6, 7}, []int{1, 4, 5}},
		{3, 0, []int{1, 2, 3, 4, 5, 6, 7}, nil},
	} {
		b := four()
		b.closed(c.win, c.gone...)
		if b.s.Root() != c.root || !slices.Equal(b.s.Windows(), c.left) {
			t.Errorf("Close(%d) leaves the root %d of %v", c.win, b.s.Root(), b.s.Windows())
		}
		for _, gone := range c.gone {
			if again, e := b.close(gone); len(again) > 0 || e != api.ErrNone {
				t.Errorf("Close(%d) once more = %v, %d", gone, again, e)
			}
		}
	}
}

func TestCloseOfNothing(t *testing.T) {
	b := begin(t, 80, 24)
	for _, win := range probes(b.m.next) {
		if gone, e := b.close(win); len(gone) > 0 || e != api.ErrNone {
			t.Errorf("Close(%d) = %v, %d", win, gone, e)
		}
	}
	b.opened(0, 0, 0, api.PaneText, 1)
	for _, win := range probes(b.m.next) {
		if gone, e := b.close(win); win != 1 && (len(gone) > 0 || e != api.ErrNone) {
			t.Errorf("Close(%d) = %v, %d", win, gone, e)
		}
	}
}

func TestCloseLeavesTheSiblingInItsParentsPlace(t *testing.T) {
	for _, outer := range methods() {
		for _, inner := range methods() {
			for _, win := range []int{1, 2} {
				b := begin(t, 80, 24)
				b.opened(0, 0, 0, api.PaneText, 1)
				b.opened(1, inner, 9, api.PaneText, 2)
				b.opened(3, outer, 8, api.PaneText, 4)
				first, second := b.s.Kids(5)
				r, _ := b.s.Rect(3)
				b.closed(win, slices.Sorted(slices.Values([]int{win, 3}))...)
				b.lies(3-win, r.X, r.Y, r.W, r.H)
				if first == 3 {
					first = 3 - win
				} else {
					second = 3 - win
				}
				if f, s := b.s.Kids(5); f != first || s != second || b.s.Parent(3-win) != 5 || b.s.Sibling(3-win) != 4 {
					t.Errorf("the children are %d, %d; not %d, %d", f, s, first, second)
				}
			}
		}
	}
}

func TestCloseOfAKey(t *testing.T) {
	for _, side := range sides() {
		b := begin(t, 80, 24)
		b.opened(0, 0, 0, api.PaneText, 1)
		b.opened(1, side+api.PaneFixed, 9, api.PaneGrid, 2)
		b.opened(2, side+api.PaneFixed, 3, api.PaneGrid, 4)
		b.keyed(3, side+16, 9, 2)
		b.keyed(5, side+16, 3, 4)
		b.arranged(5, side+16, 3, 2, api.OK)
		// The key of the root lies below its child: it goes, the child's other part stays.
		b.closed(2, 2, 5)
		b.keyed(3, side+16, 9, 0)
		if r, _ := b.s.Rect(4); r.W*r.H != 0 {
			t.Errorf("side %d: with no key %+v is measured", side, r)
		}
		// A share needs no key; a key may be set again.
		b.arranged(3, side+32, 50, 0, api.OK)
		b.keyed(3, side+32, 50, 0)
		if r, _ := b.s.Rect(4); r.W*r.H != 80*24/2 {
			t.Errorf("side %d: with no key a share is %+v", side, r)
		}
		b.arranged(3, side+16, 9, 0, api.OK)
		b.keyed(3, side+16, 9, 0)
		b.arranged(3, side+16, 9, 4, api.OK)
		b.keyed(3, side+16, 9, 4)
		if r, _ := b.s.Rect(4); r.W != 9 && r.H != 9 {
			t.Errorf("side %d: with a key again it is %+v", side, r)
		}
	}
}

func TestCloseOfManyKeys(t *testing.T) {
	// One window is the key of all pairs above it, and they lose it at once; others keep theirs.
	b := begin(t, 80, 24)
	b.opened(0, 0, 0, api.PaneText, 1)
	for win := 2; win <= 20; win += 2 {
		b.opened(win-1, api.PaneRight+api.PaneFixed, 4, api.PaneText, win)
		b.arranged(win+1, api.PaneRight+api.PaneFixed, 4, 1, api.OK)
	}
	b.arranged(11, api.PaneRight+api.PaneFixed, 4, 2, api.OK)
	b.closed(1, 1, 3)
	for pair := 5; pair <= 21; pair += 2 {
		key := 0
		if pair == 11 {
			key = 2
		}
		b.keyed(pair, api.PaneRight+api.PaneFixed, 4, key)
	}
	// A pair that goes takes the keys that lie below it.
	b.arranged(21, api.PaneRight+api.PaneFixed, 4, 6, api.OK)
	b.arranged(19, api.PaneRight+api.PaneFixed, 4, 16, api.OK)
	b.closed(9, 2, 4, 5, 6, 7, 8, 9, 11)
	b.keyed(21, api.PaneRight+api.PaneFixed, 4, 0)
	b.keyed(19, api.PaneRight+api.PaneFixed, 4, 16)
}

// P14.4

func TestArrange(t *testing.T) {
	for _, method := range methods() {
		for _, other := range methods() {
			for _, size := range someSizes() {
				for _, key := range []int{0, 1, 2} {
					b := begin(t, 80, 24)
					b.opened(0, 0, 0, api.PaneGrid, 1)
					b.opened(1, method, 5, api.PaneText, 2)
					first, second := b.s.Kids(3)
					if (method&2 == 0) != (other&2 == 0) {
						b.arranged(3, other, size, key, api.ErrArg)
						b.keyed(3, method, 5, 2)
						continue
					}
					b.arranged(3, other, size, key, api.OK)
					if f, s := b.s.Kids(3); f != first || s != second {
						t.Fatalf("the children are %d, %d; not %d, %d", f, s, first, second)
					}
					if key == 0 {
						key = 2
					}
					b.keyed(3, other, size, key)
				}
			}
		}
	}
}

func TestArrangeMeasuresTheOtherSide(t *testing.T) {
	b := begin(t, 80, 24)
	b.opened(0, 0, 0, api.PaneText, 1)
	b.opened(1, api.PaneRight+api.PaneFixed, 30, api.PaneGrid, 2)
	b.lies(1, 0, 0, 50, 24)
	b.lies(2, 50, 0, 30, 24)
	b.arranged(3, api.PaneLeft+api.PaneFixed, 30, 0, api.OK)
	b.lies(1, 0, 0, 30, 24)
	b.lies(2, 30, 0, 50, 24)
	b.arranged(3, api.PaneLeft+api.PaneShare, 30, 1, api.OK)
	b.lies(1, 0, 0, 24, 24)
	b.lies(2, 24, 0, 56, 24)
	b.arranged(3, api.PaneRight+api.PaneShare, 30, 1, api.OK)
	b.lies(1, 0, 0, 56, 24)
	b.lies(2, 56, 0, 24, 24)
}

func TestArrangeErrors(t *testing.T) {
	b := begin(t, 80, 24)
	wrong := append(wrongMethods(), methods()...)
	for _, method := range wrong {
		for _, pair := range probes(b.m.next) {
			b.arranged(pair, method, 3, 0, api.ErrNone)
		}
	}
	b.opened(0, 0, 0, api.PaneText, 1)
	b.opened(1, api.PaneLeft+api.PaneFixed, 3, api.PaneGrid, 2)
	b.opened(1, api.PaneBelow+api.PaneShare, 30, api.PaneBlank, 4)
	for _, method := range wrong {
		for _, key := range []int{0, 1, 3, 9, -1} {
			for _, win := range []int{1, 2, 4} { // no pairs
				b.arranged(win, method, 3, key, api.ErrArg)
			}
			for _, none := range []int{0, 6, 7, -1, 1<<32 + 3, 1<<63 - 1, -1 << 63} {
				b.arranged(none, method, 3, key, api.ErrNone)
			}
		}
	}
	for _, method := range wrongMethods() {
		for _, key := range []int{0, 1, 4} {
			b.arranged(3, method, 3, key, api.ErrArg)
			b.arranged(5, method, 3, key, api.ErrArg)
		}
	}
	for _, way := range ways() {
		for _, key := range []int{0, 1, 4} {
			for _, side := range []int{api.PaneAbove, api.PaneBelow} {
				b.arranged(3, way+side, 3, key, api.ErrArg)
				b.arranged(5, way+side-2, 3, key, api.ErrArg)
			}
		}
		// No window, itself, pairs, and those that are not below it.
		for _, key := range []int{-1, 3, 5, 6, 7, 1<<32 + 1, 1<<32 + 4, 1<<63 - 1, -1 << 63} {
			b.arranged(3, way, 3, key, api.ErrArg)
			b.arranged(5, way+2, 3, key, api.ErrArg)
		}
		b.arranged(5, way+2, 3, 2, api.ErrArg)
	}
	b.keyed(3, 16, 3, 2)
	b.keyed(5, 35, 30, 4)
	b.arranged(3, 16, 3, 4, api.OK)
	b.closed(4, 4, 5)
	b.arranged(3, 16, 3, 4, api.ErrArg)
	b.arranged(5, 16, 3, 0, api.ErrNone)
	b.keyed(3, 16, 3, 0)
}

func TestArrangement(t *testing.T) {
	b := begin(t, 80, 24)
	expect := func(pair int, want api.Errno) {
		t.Helper()
		if method, size, key, e := b.s.Arrangement(pair); method != 0 || size != 0 || key != 0 || e != want {
			t.Errorf("Arrangement(%d) = %d, %d, %d, %d; not the error %d", pair, method, size, key, e, want)
		}
	}
	for _, pair := range probes(b.m.next) {
		expect(pair, api.ErrNone)
	}
	b.opened(0, 19, 5, api.PaneText, 1)
	expect(1, api.ErrArg)
	b.opened(1, 35, top, api.PaneGrid, 2)
	expect(1, api.ErrArg)
	expect(2, api.ErrArg)
	b.keyed(3, 35, top, 2)
	for _, pair := range []int{0, 4, 5, -1, -3, 1<<32 + 3} {
		expect(pair, api.ErrNone)
	}
	b.closed(2, 2, 3)
	expect(3, api.ErrNone)
}

// P14.5

func TestResize(t *testing.T) {
	b := begin(t, 80, 24)
	b.resized(0, 1000, api.OK)
	b.resized(80, 24, api.OK)
	b.opened(0, 0, 0, api.PaneText, 1)
	b.opened(1, api.PaneAbove+api.PaneFixed, 10, api.PaneGrid, 2)
	b.opened(1, api.PaneRight+api.PaneShare, 30, api.PaneText, 4)
	b.opened(4, api.PaneLeft+api.PaneFixed, 20, api.PaneText, 6)
	was := tell(b.s, b.m.next)
	for _, w := range []int{0, 1, 2, 19, 20, 21, 66, 67, 999, 1000} {
		for _, h := range []int{0, 1, 9, 10, 11, 999, 1000} {
			b.resized(w, h, api.OK)
			b.lies(3, 0, 0, w, h)
			b.lies(2, 0, 0, w, min(10, h))
			b.resized(80, 24, api.OK)
			// As large again all is as it was.
			expectSame(t, "as large again", tell(b.s, b.m.next), was)
		}
	}
	for _, wrong := range wrongBounds() {
		for _, other := range append(wrongBounds(), 0, 1, 80, 1000) {
			b.resized(wrong, other, api.ErrArg)
			b.resized(other, wrong, api.ErrArg)
			expectSame(t, "refused", tell(b.s, b.m.next), was)
		}
	}
}

func TestFamily(t *testing.T) {
	b := begin(t, 80, 24)
	expect := func(win, kind, parent, sibling, first, second int) {
		t.Helper()
		f, s := b.s.Kids(win)
		if b.s.Kind(win) != kind || b.s.Parent(win) != parent || b.s.Sibling(win) != sibling || f != first || s != second {
			t.Errorf("%d: kind %d, parent %d, sibling %d, children %d, %d", win, b.s.Kind(win), b.s.Parent(win), b.s.Sibling(win), f, s)
		}
	}
	for _, win := range probes(b.m.next) {
		expect(win, 0, 0, 0, 0, 0)
	}
	b.opened(0, 0, 0, api.PaneBlank, 1)
	expect(1, api.PaneBlank, 0, 0, 0, 0)
	b.opened(1, api.PaneLeft+api.PaneShare, 30, api.PaneText, 2)
	expect(1, api.PaneBlank, 3, 2, 0, 0)
	expect(2, api.PaneText, 3, 1, 0, 0)
	expect(3, api.PanePair, 0, 0, 2, 1)
	b.opened(2, api.PaneBelow+api.PaneShare, 30, api.PaneGrid, 4)
	expect(1, api.PaneBlank, 3, 5, 0, 0)
	expect(2, api.PaneText, 5, 4, 0, 0)
	expect(3, api.PanePair, 0, 0, 5, 1)
	expect(4, api.PaneGrid, 5, 2, 0, 0)
	expect(5, api.PanePair, 3, 1, 2, 4)
	for _, win := range []int{-1, 0, 6, 7, 1<<32 + 1, 1<<32 + 3, 1<<63 - 1, -1 << 63} {
		expect(win, 0, 0, 0, 0, 0)
	}
	b.closed(1, 1, 3)
	expect(1, 0, 0, 0, 0, 0)
	expect(3, 0, 0, 0, 0, 0)
	expect(5, api.PanePair, 0, 0, 2, 4)
	expect(2, api.PaneText, 5, 4, 0, 0)
}

// P14.6

func TestRectOfNothing(t *testing.T) {
	b := begin(t, 80, 24)
	expect := func(win int) {
		t.Helper()
		if r, ok := b.s.Rect(win); r != (api.Rect{}) || ok {
			t.Errorf("Rect(%d) = %+v, %t", win, r, ok)
		}
	}
	for _, win := range probes(b.m.next) {
		expect(win)
	}
	b.opened(0, 0, 0, api.PaneText, 1)
	b.opened(1, 16, 5, api.PaneText, 2)
	for _, win := range []int{-1, 0, 4, 5, 1<<32 + 1, 1<<63 - 1, -1 << 63} {
		expect(win)
	}
	b.closed(1, 1, 3)
	expect(1)
	expect(3)
	b.lies(2, 0, 0, 80, 24)
}

func TestFixedParts(t *testing.T) {
	// Of 80 columns or 24 rows: none, some, all, one more, far more.
	for _, c := range []struct {
		size         uint32
		columns, row int
	}{{0, 0, 0}, {1, 1, 1}, {10, 10, 10}, {23, 23, 23}, {24, 24, 24}, {25, 25, 24}, {79, 79, 24}, {80, 80, 24}, {81, 80, 24}, {100, 80, 24}, {1 << 31, 80, 24}, {top - 5, 80, 24}, {top, 80, 24}} {
		m, n := c.columns, c.row
		for _, kind := range []int{api.PaneText, api.PaneGrid} {
			parted(t, api.PaneLeft+api.PaneFixed, c.size, kind, [4]int{0, 0, m, 24}, [4]int{m, 0, 80 - m, 24})
			parted(t, api.PaneRight+api.PaneFixed, c.size, kind, [4]int{80 - m, 0, m, 24}, [4]int{0, 0, 80 - m, 24})
			parted(t, api.PaneAbove+api.PaneFixed, c.size, kind, [4]int{0, 0, 80, n}, [4]int{0, n, 80, 24 - n})
			parted(t, api.PaneBelow+api.PaneFixed, c.size, kind, [4]int{0, 24 - n, 80, n}, [4]int{0, 0, 80, 24 - n})
		}
		// A blank window measures nothing.
		parted(t, api.PaneLeft+api.PaneFixed, c.size, api.PaneBlank, [4]int{0, 0, 0, 24}, [4]int{0, 0, 80, 24})
		parted(t, api.PaneRight+api.PaneFixed, c.size, api.PaneBlank, [4]int{80, 0, 0, 24}, [4]int{0, 0, 80, 24})
		parted(t, api.PaneAbove+api.PaneFixed, c.size, api.PaneBlank, [4]int{0, 0, 80, 0}, [4]int{0, 0, 80, 24})
		parted(t, api.PaneBelow+api.PaneFixed, c.size, api.PaneBlank, [4]int{0, 24, 80, 0}, [4]int{0, 0, 80, 24})
	}
}

func TestSharedParts(t *testing.T) {
	// Of 80 columns or 24 rows: what is left over goes to the other part.
	for _, c := range []struct {
		size          uint32
		columns, rows int
	}{{0, 0, 0}, {1, 0, 0}, {2, 1, 0}, {4, 3, 0}, {5, 4, 1}, {33, 26, 7}, {50, 40, 12}, {66, 52, 15}, {99, 79, 23}, {100, 80, 24}, {101, 80, 24}, {150, 80, 24}, {1 << 28, 80, 24}, {1 << 31, 80, 24}, {178956971, 80, 24}, {53687092, 80, 24}, {top, 80, 24}} {
		m, n := c.columns, c.rows
		for _, kind := range kinds() {
			parted(t, api.PaneLeft+api.PaneShare, c.size, kind, [4]int{0, 0, m, 24}, [4]int{m, 0, 80 - m, 24})
			parted(t, api.PaneRight+api.PaneShare, c.size, kind, [4]int{80 - m, 0, m, 24}, [4]int{0, 0, 80 - m, 24})
			parted(t, api.PaneAbove+api.PaneShare, c.size, kind, [4]int{0, 0, 80, n}, [4]int{0, n, 80, 24 - n})
			parted(t, api.PaneBelow+api.PaneShare, c.size, kind, [4]int{0, 24 - n, 80, n}, [4]int{0, 0, 80, 24 - n})
		}
	}
}

// parted: of a screen of 80 columns and 24 rows, where a new window of that kind lies, and where the other one.
func parted(t *testing.T, method int, size uint32, kind int, measured, other [4]int) {
	t.Helper()
	b := begin(t, 80, 24)
	b.opened(0, 0, 0, api.PaneText, 1)
	b.opened(1, method, size, kind, 2)
	b.lies(2, measured[0], measured[1], measured[2], measured[3])
	b.lies(1, other[0], other[1], other[2], other[3])
	b.lies(3, 0, 0, 80, 24)
}

func TestPartsOfEdgesOfScreens(t *testing.T) {
	for _, w := range []int{0, 1, 1000} {
		for _, h := range []int{0, 1, 1000} {
			for _, method := range methods() {
				for _, size := range []uint32{0, 1, 2, 50, 99, 100, 101, 999, 1000, 1001, 4294968, 1 << 31, top} {
					b := begin(t, w, h)
					b.opened(0, 0, 0, api.PaneText, 1)
					b.opened(1, method, size, api.PaneGrid, 2)
					b.opened(3, method^2, size, api.PaneGrid, 4)
				}
			}
		}
	}
}

func TestSharesOfAllSizes(t *testing.T) {
	b := begin(t, 1000, 1000)
	b.opened(0, 0, 0, api.PaneText, 1)
	b.opened(1, api.PaneLeft+api.PaneShare, 0, api.PaneBlank, 2)
	for w := range 1001 {
		if e := b.s.Resize(w, 7); e != api.OK {
			t.Fatalf("Resize(%d, 7) = %d", w, e)
		}
		for size := range 103 {
			if e := b.s.Arrange(3, api.PaneLeft+api.PaneShare, uint32(size), 0); e != api.OK {
				t.Fatalf("Arrange = %d", e)
			}
			b.lies(2, 0, 0, min(w, w*size/100), 7)
		}
	}
}

func TestKeyThatIsBlankOrBelow(t *testing.T) {
	b := begin(t, 80, 24)
	b.opened(0, 0, 0, api.PaneBlank, 1)
	b.opened(1, api.PaneRight+api.PaneFixed, 30, api.PaneText, 2)
	b.lies(2, 50, 0, 30, 24)
	// The other child as the key, which is blank.
	b.arranged(3, api.PaneRight+api.PaneFixed, 30, 1, api.OK)
	b.lies(2, 80, 0, 0, 24)
	b.lies(1, 0, 0, 80, 24)
	b.arranged(3, api.PaneRight+api.PaneShare, 30, 0, api.OK)
	b.lies(2, 56, 0, 24, 24)
	b.arranged(3, api.PaneRight+api.PaneFixed, 30, 2, api.OK)
	b.lies(2, 50, 0, 30, 24)
	// A key that comes to lie below a child stays the key.
	b.opened(2, api.PaneAbove+api.PaneFixed, 5, api.PaneBlank, 4)
	b.keyed(3, 17, 30, 2)
	b.lies(5, 50, 0, 30, 24)
	b.lies(4, 50, 0, 30, 0)
	b.arranged(3, api.PaneRight+api.PaneFixed, 30, 4, api.OK)
	b.lies(5, 80, 0, 0, 24)
	b.lies(2, 80, 0, 0, 24)
	// A key two levels down, that goes with the pair that it is in.
	b.opened(4, api.PaneLeft+api.PaneFixed, 5, api.PaneGrid, 6)
	b.arranged(3, api.PaneRight+api.PaneFixed, 12, 6, api.OK)
	b.lies(5, 68, 0, 12, 24)
	b.closed(7, 4, 5, 6, 7)
	b.keyed(3, 17, 12, 0)
	b.lies(2, 80, 0, 0, 24)
	b.lies(1, 0, 0, 80, 24)
}

func TestPairs(t *testing.T) {
	// A pair is split, arranged and closed.
	b := begin(t, 80, 24)
	b.opened(0, 0, 0, api.PaneText, 1)
	b.opened(1, api.PaneRight+api.PaneFixed, 30, api.PaneText, 2)
	b.opened(3, api.PaneBelow+api.PaneFixed, 4, api.PaneGrid, 4)
	b.lies(5, 0, 0, 80, 24)
	b.lies(4, 0, 20, 80, 4)
	b.lies(3, 0, 0, 80, 20)
	b.lies(2, 50, 0, 30, 20)
	b.arranged(5, api.PaneAbove+api.PaneFixed, 4, 2, api.OK)
	b.lies(3, 0, 0, 80, 4)
	b.lies(4, 0, 4, 80, 20)
	b.closed(3, 1, 2, 3, 5)
	b.lies(4, 0, 0, 80, 24)
	if b.s.Root() != 4 || b.s.Parent(4) != 0 || b.s.Sibling(4) != 0 {
		t.Errorf("root %d", b.s.Root())
	}
}

// On a nil tree

func TestNil(t *testing.T) {
	var s *Tree
	for _, win := range append(probes(5), wrongMethods()...) {
		for _, method := range []int{0, 16, 48} {
			for _, kind := range []int{0, 2, 4} {
				if n, e := s.Open(win, method, 3, kind); n != 0 || e != api.ErrNil {
					t.Errorf("Open(%d, %d, 3, %d) = %d, %d", win, method, kind, n, e)
				}
			}
			if e := s.Arrange(win, method, 3, 0); e != api.ErrNil {
				t.Errorf("Arrange(%d, %d, 3, 0) = %d", win, method, e)
			}
		}
		if gone, e := s.Close(win); len(gone) != 0 || e != api.ErrNil {
			t.Errorf("Close(%d) = %v, %d", win, gone, e)
		}
		if method, size, key, e := s.Arrangement(win); method != 0 || size != 0 || key != 0 || e != api.ErrNil {
			t.Errorf("Arrangement(%d) = %d, %d, %d, %d", win, method, size, key, e)
		}
		first, second := s.Kids(win)
		if s.Kind(win) != 0 || s.Parent(win) != 0 || s.Sibling(win) != 0 || first != 0 || second != 0 {
			t.Errorf("%d: kind %d, parent %d, sibling %d, children %d, %d", win, s.Kind(win), s.Parent(win), s.Sibling(win), first, second)
		}
		if r, ok := s.Rect(win); r != (api.Rect{}) || ok {
			t.Errorf("Rect(%d) = %+v, %t", win, r, ok)
		}
	}
	for _, bound := range append(wrongBounds(), 0, 80, 1000) {
		if e := s.Resize(bound, 24); e != api.ErrNil {
			t.Errorf("Resize(%d, 24) = %d", bound, e)
		}
	}
	if s.Root() != 0 || len(s.Windows()) != 0 {
		t.Errorf("root %d, windows %v", s.Root(), s.Windows())
	}
}

func TestNoCallPanicsOnTheZeroTree(t *testing.T) {
	r := rand.New(rand.NewSource(140))
	for range 50 {
		var s Tree
		for range 40 {
			number := r.Intn(9)
			s.Open(someOf(r, number, 0), someMethod(r), someSize(r), someOf(r, kinds()...))
			s.Arrange(number, someMethod(r), someSize(r), r.Intn(9))
			tell(&s, 9)
			if r.Intn(5) == 0 {
				s.Close(number)
				s.Resize(r.Intn(9), r.Intn(9))
			}
		}
	}
}

// P14.1 to P14.6, by chance

func TestByChance(t *testing.T) {
	r := rand.New(rand.NewSource(14))
	for range 400 {
		someTree(t, r, 80)
	}
	for range 20 {
		b := full(t, r)
		for range 200 {
			b.someCall(r)
		}
	}
}

func TestTreesAreApart(t *testing.T) {
	r := rand.New(rand.NewSource(141))
	for range 20 {
		a, b := someTree(t, r, 10), someTree(t, r, 10)
		for range 60 {
			someOf(r, a, b).someCall(r)
			expectModel(t, "one of two", a.s, a.m)
			expectModel(t, "the other of two", b.s, b.m)
		}
	}
}
