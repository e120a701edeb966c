package glk

import (
	"maps"
	"math/rand"
	"slices"
	"testing"

	"grotto/api"
)

// going: a world by chance that is not over.
func going(t *testing.T, r *rand.Rand, steps int) *both {
	t.Helper()
	b := someWorld(t, r, steps)
	for b.g.Over() {
		b = someWorld(t, r, steps)
	}
	return b
}

// walk: the ids of all objects of a kind, by the call that goes through them.
func walk(t *testing.T, g *World, next uint32) (l []uint32) {
	t.Helper()
	m := newRoom()
	for id := uint32(0); ; {
		x, e := g.Call(m, next, id, 0)
		if e != api.OK || x != 0 && x <= id {
			t.Fatalf("Call(%x, %d) = %d, %d", next, id, x, e)
		}
		if x == 0 {
			return l
		}
		l = append(l, x)
		id = x
	}
}

// P16.5

func TestIdsRiseAndAreNeverAnothers(t *testing.T) {
	r := rand.New(rand.NewSource(165))
	for range 60 {
		b := someWorld(t, r, 0)
		// What each id was when it was seen first; the greatest one.
		was, most := map[uint32]uint32{}, uint32(0)
		for !b.g.Over() && len(was) < 100 {
			before := most
			for _, next := range []uint32{api.GlkWinNext, api.GlkStrNext, api.GlkRefNext} {
				for _, id := range walk(t, b.g, next) {
					kind, seen := was[id]
					if !seen && id <= before || seen && kind != next {
						t.Fatalf("%d comes again, or did not rise above %d", id, before)
					}
					was[id], most = next, max(most, id)
				}
			}
			b.someStep(r)
		}
	}
}

func TestAnIdThatIsGoneIsGone(t *testing.T) {
	r := rand.New(rand.NewSource(1655))
	for range 40 {
		b := someWorld(t, r, 0)
		gone := map[uint32]bool{}
		var were []uint32
		for range 150 {
			if b.someStep(r); b.g.Over() {
				break
			}
			var are []uint32
			for _, next := range []uint32{api.GlkWinNext, api.GlkStrNext, api.GlkRefNext} {
				are = append(are, walk(t, b.g, next)...)
			}
			for _, id := range are {
				if gone[id] {
					t.Fatalf("%d is there again", id)
				}
			}
			for _, id := range were {
				gone[id] = !slices.Contains(are, id)
			}
			were = are
		}
	}
}

// P16.6

func TestWhatComesToAWindowIsToldAndItsText(t *testing.T) {
	r := rand.New(rand.NewSource(166))
	for range 100 {
		g, _ := New(30, 30)
		m := newRoom()
		g.Call(m, api.GlkWinOpen, 0, 0, 0, api.WinText, 0)
		wins := []uint32{1}
		for range 4 {
			win, _ := g.Call(m, api.GlkWinOpen, someOf(r, wins...), 16, 3, someOf[uint32](r, 3, 3, 4, 2), 0)
			wins = append(wins, win)
		}
		texts := map[uint32][]uint32{}
		var all []uint32
		for range 200 {
			win, c := someOf(r, wins...), someOf(r, someChars()...)
			str, _ := g.Call(m, api.GlkWinStream, win)
			switch r.Intn(4) {
			case 0:
				g.Call(m, api.GlkPutStrWide, str, c)
			case 1:
				c %= 256
				g.Call(m, api.GlkPutStr, str, c)
			case 2:
				g.Call(m, api.GlkWinSet, win)
				g.Put(c)
			case 3:
				c %= 256
				g.Call(m, api.GlkStrSet, str)
				m.Set(0x300, 1, c)
				g.Call(m, api.GlkPutBuffer, 0x300, 1)
			}
			if kind, _ := g.Call(m, api.GlkWinKind, win); kind == api.WinText {
				texts[win] = append(texts[win], c)
				all = append(all, win, c)
			}
		}
		for _, win := range wins {
			if is := g.Text(win); !slices.Equal(is, texts[win]) {
				t.Fatalf("Text(%d) = %v, not %v", win, is, texts[win])
			}
		}
		expectOut(t, g, all)
	}
}

// expectOut: what was told is this, a window and a character by turns; no two that stand side by side are one window's, and none is empty.
func expectOut(t *testing.T, g *World, want []uint32) {
	t.Helper()
	var is []uint32
	last := uint32(0)
	for _, s := range g.Out() {
		if s.Win == last || len(s.Text) == 0 {
			t.Fatalf("%v behind %d", s, last)
		}
		for _, c := range s.Text {
			is = append(is, s.Win, c)
		}
		last = s.Win
	}
	if !slices.Equal(is, want) {
		t.Fatalf("%v is told, not %v", is, want)
	}
}

func TestWhatIsWrittenThroughAReferenceIsReadThroughIt(t *testing.T) {
	r := rand.New(rand.NewSource(1666))
	for range 300 {
		g, _ := New(30, 30)
		m := newRoom()
		m.put(0x240, "abc\x00")
		ref, _ := g.Call(m, api.GlkRefName, 0, 0x240, 0)
		open, put, get := uint32(api.GlkStrFile), uint32(api.GlkPutStr), uint32(api.GlkGetStr)
		if r.Intn(2) == 0 {
			open, put, get = api.GlkStrFileWide, api.GlkPutStrWide, api.GlkGetStrWide
		}
		str, _ := g.Call(m, open, ref, someOf[uint32](r, 1, 3, 5), 0)
		var l []uint32
		for range r.Intn(50) {
			c := someOf(r, someChars()...)
			g.Call(m, put, str, c)
			if put == api.GlkPutStr {
				c %= 256
			}
			l = append(l, c)
		}
		g.Call(m, api.GlkStrClose, str, 0)
		// By that one, or by another one of its name.
		if r.Intn(2) == 0 {
			g.Call(m, api.GlkRefDestroy, ref)
			ref, _ = g.Call(m, api.GlkRefName, 9, 0x240, 0)
		}
		if is, e := g.Call(m, api.GlkRefExists, ref); is != 1 || e != api.OK {
			t.Fatalf("%d, %d", is, e)
		}
		str, _ = g.Call(m, open, ref, someOf[uint32](r, 2, 3), 0)
		for i, want := range append(l, top) {
			if c, e := g.Call(m, get, str); c != want || e != api.OK {
				t.Fatalf("the character %d: %d, %d; not %d", i, c, e, want)
			}
		}
	}
}

// P16.7

func TestAMemorysBytesAreWhatItsStreamWrote(t *testing.T) {
	r := rand.New(rand.NewSource(167))
	for range 500 {
		g, _ := New(30, 30)
		m := newRoom()
		var want []byte
		for i := range 64 {
			want = append(want, byte(i*7+1))
		}
		m.put(0x500, string(want))
		open, width := uint32(api.GlkStrMemory), 1
		if r.Intn(2) == 0 {
			open, width = api.GlkStrMemWide, 4
		}
		from, n := r.Intn(8), 1+r.Intn(13)
		str, e := g.Call(m, open, 0x500+uint32(from), uint32(n), someOf[uint32](r, 1, 3), 0)
		if e != api.OK || str == 0 {
			t.Fatalf("%d, %d", str, e)
		}
		place := 0
		for range r.Intn(30) {
			if r.Intn(4) == 0 {
				place = r.Intn(n + 1)
				g.Call(m, api.GlkStrSeek, str, uint32(place), api.FromStart)
			}
			c := someOf(r, someChars()...)
			g.Call(m, api.GlkPutStrWide, str, c)
			if place == n {
				continue // it is lost
			}
			if width == 1 && c > 255 {
				c = '?'
			}
			for i := range width {
				want[from+place*width+i] = byte(c >> (8 * (width - 1 - i)))
			}
			place++
		}
		if x, e := g.Call(m, api.GlkStrClose, str, 0); x != 0 || e != api.OK {
			t.Fatalf("%d, %d", x, e)
		}
		if is := m.text(0x500, 64); is != string(want) {
			t.Fatalf("%q, not %q", is, want)
		}
	}
}

// P16.8

func TestALineIsWhereItWasAskedForAndNoMore(t *testing.T) {
	r := rand.New(rand.NewSource(168))
	for range 500 {
		in := api.Input{Line: true}
		for range r.Intn(40) {
			in.Text = append(in.Text, someOf(r, someChars()...))
		}
		g, _ := New(30, 30, in)
		m := newRoom()
		for i := range m.low {
			m.low[i] = 0xaa
		}
		g.Call(m, api.GlkWinOpen, 0, 0, 0, someOf[uint32](r, 3, 4), 0)
		at, n := 0x500+r.Intn(100), r.Intn(45)
		g.Call(m, api.GlkLineAsk, 1, uint32(at), uint32(n), uint32(r.Intn(9)))
		want := *m
		for i, c := range in.Text {
			if i < n && c < 256 {
				want.low[at+i] = byte(c)
			} else if i < n {
				want.low[at+i] = '?'
			}
		}
		if x, e := g.Call(m, api.GlkSelect, top); x != 0 || e != api.OK {
			t.Fatalf("%d, %d", x, e)
		}
		if m.low != want.low || m.high != want.high {
			t.Fatalf("%v at %x, %d at most: %q", in.Text, at, n, m.text(uint32(at)-2, 50))
		}
		if !slices.Equal(m.stack, []uint32{3, 1, uint32(min(n, len(in.Text))), 0}) {
			t.Fatalf("%v of %d, %d at most", m.stack, len(in.Text), n)
		}
	}
}

// P16.9

// wrongIds: numbers that are none of these objects, those of other kinds and those that are gone among them.
func (b *both) wrongIds(right []uint32) (l []uint32) {
	for _, id := range b.ids() {
		if !slices.Contains(right, id) && id != 0 {
			l = append(l, id)
		}
	}
	return l
}

// wrongCall: a call by chance all of whose objects are wrong.
func (b *both) wrongCall(r *rand.Rand) (f form, args []uint32) {
	named := slices.DeleteFunc(forms(), func(f form) bool {
		return len(f.args) == 0 || !slices.Contains([]byte("wWsSf"), f.args[0])
	})
	f = someOf(r, named...)
	for _, letter := range f.args {
		var right []uint32
		switch letter {
		case 'w', 'W':
			right = slices.Collect(maps.Keys(b.m.wins))
		case 's', 'S':
			right = slices.Collect(maps.Keys(b.m.strs))
		case 'f':
			right = slices.Collect(maps.Keys(b.m.refs))
		default:
			args = append(args, b.someArg(r, letter))
			continue
		}
		wrong := b.wrongIds(right)
		if letter > 'Z' {
			wrong = append(wrong, 0)
		}
		args = append(args, someOf(r, wrong...))
	}
	return f, args
}

// state: all that a world tells.
type state struct {
	out     []api.Said
	texts   [][]uint32
	rows    [][][]uint32
	files   []string
	objects []uint32
	left    int
}

func (b *both) state() (s state) {
	s.out, s.left = b.g.Out(), b.g.Left()
	for _, id := range b.ids() {
		s.texts = append(s.texts, b.g.Text(id))
		s.rows = append(s.rows, b.g.Rows(id))
	}
	for _, name := range b.g.Names() {
		data, _ := b.g.File(name)
		s.files = append(s.files, name, string(data))
	}
	for _, next := range []uint32{api.GlkWinNext, api.GlkStrNext, api.GlkRefNext} {
		s.objects = append(s.objects, walk(b.t, b.g, next)...)
	}
	m := newRoom()
	for _, id := range b.ids() {
		for _, sel := range []uint32{api.GlkWinKind, api.GlkWinParent, api.GlkWinSibling, api.GlkWinStream, api.GlkStrTell, api.GlkWinRock, api.GlkStrRock, api.GlkRefRock} {
			x, _ := b.g.Call(m, sel, id)
			s.objects = append(s.objects, x)
		}
	}
	current, _ := b.g.Call(m, api.GlkStrCurrent)
	s.objects = append(s.objects, current)
	return s
}

func (s state) same(o state) bool {
	return sameSaid(s.out, o.out) && sameRows(s.texts, o.texts) && slices.EqualFunc(s.rows, o.rows, sameRows) &&
		slices.Equal(s.files, o.files) && slices.Equal(s.objects, o.objects) && s.left == o.left
}

func TestWrongObjectsChangeNothing(t *testing.T) {
	r := rand.New(rand.NewSource(169))
	for range 40 {
		b := going(t, r, r.Intn(120))
		was, space := b.state(), b.s.clone()
		for range 150 {
			f, args := b.wrongCall(r)
			want := uint32(0)
			if f.sel == api.GlkGetStr || f.sel == api.GlkGetStrWide {
				want = top
			}
			// On the world alone: what comes later is held against the model, to which none of them came.
			if x, e := b.g.Call(b.s, f.sel, args...); x != want || e != api.OK {
				t.Fatalf("Call(%x, %v) = %d, %d; not %d", f.sel, args, x, e, want)
			}
			if !b.s.same(space) {
				t.Fatalf("Call(%x, %v) has looked at its Space", f.sel, args)
			}
		}
		if !b.state().same(was) {
			t.Fatal("wrong objects have changed something")
		}
		for range 40 {
			b.someStep(r)
		}
	}
}

func TestEachCallWithEachWrongObject(t *testing.T) {
	// Of each kind one that is there, one that is gone, and others.
	b := many(t)
	b.does(api.GlkWinClose, 10, 0)
	b.does(api.GlkPutStr, 2, 'x')
	right := map[byte][]uint32{'w': {1}, 's': {2, 5, 8}, 'f': {4, 7, 9}}
	was := b.state()
	for _, f := range forms() {
		if len(f.args) == 0 || !slices.Contains([]byte("wsf"), f.args[0]|0x20) {
			continue
		}
		wrong := b.wrongIds(right[f.args[0]|0x20])
		if f.args[0] > 'Z' {
			wrong = append(wrong, 0)
		}
		for _, id := range wrong {
			args := []uint32{id, 1, 5, 3, 7}[:len(f.args)]
			if f.sel == api.GlkWinOpen || f.sel == api.GlkWinArrange {
				args[1] = api.PaneAbove + api.PaneFixed
			}
			want := uint32(0)
			if f.sel == api.GlkGetStr || f.sel == api.GlkGetStrWide {
				want = top
			}
			b.gives(want, f.sel, args...)
		}
	}
	if !b.state().same(was) {
		t.Fatal("wrong objects have changed something")
	}
}
