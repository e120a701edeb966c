package shelf

import (
	"math/rand"
	"slices"
	"testing"

	"grotto/api"
)

// P15.7

// rewritten: what is read of l that such a stream wrote.
func rewritten(l []uint32, wide bool) []uint32 {
	is := slices.Clone(l)
	for i := range is {
		if !wide && is[i] > 255 {
			is[i] = 63
		}
	}
	return is
}

// expectRead: from its place on a stream has just these.
func expectRead(t *testing.T, s *Shelf, stream int, want []uint32) {
	t.Helper()
	for i, w := range want {
		if c, ok, e := s.Read(stream); c != w || !ok || e != api.OK {
			t.Fatalf("the character %d: %d, %t, %d; not %d", i, c, ok, e, w)
		}
	}
}

func TestWhatIsWrittenIsReadAgain(t *testing.T) {
	r := rand.New(rand.NewSource(157))
	for range 2000 {
		s, _ := New(api.MaxShelf)
		wide, l := r.Intn(2) == 0, someText(r, r.Intn(60))
		before := make([]byte, r.Intn(30))
		r.Read(before)
		s.Put("a", before)
		n, _ := s.Open("a", someOf(r, api.StreamWrite, api.StreamBoth, api.StreamAppend), wide)
		s.Seek(n, r.Intn(40)-5, api.FromStart)
		place, _, _ := s.Tell(n)
		// In one piece, or in some.
		for rest := l; len(rest) > 0; {
			k := 1 + r.Intn(len(rest))
			if e := s.Write(n, rest[:k]...); e != api.OK {
				t.Fatalf("Write = %d", e)
			}
			rest = rest[k:]
		}
		// By itself, if it reads, and by another one.
		if _, _, e := s.Read(n); e == api.OK {
			s.Seek(n, place, api.FromStart)
			expectRead(t, s, n, rewritten(l, wide))
		}
		s.Close(n)
		m, _ := s.Open("a", someOf(r, api.StreamRead, api.StreamBoth), wide)
		s.Seek(m, place, api.FromStart)
		expectRead(t, s, m, rewritten(l, wide))
	}
}

func TestWhatIsWrittenElsewhereChangesNoOther(t *testing.T) {
	r := rand.New(rand.NewSource(1577))
	for range 500 {
		s, _ := New(1000)
		wide := r.Intn(2) == 0
		l := someText(r, 20)
		n, _ := s.Open("a", api.StreamBoth, wide)
		if r.Intn(2) == 0 {
			n, _ = s.Buffer(make([]uint32, 20), api.StreamBoth, wide)
		}
		s.Write(n, l...)
		want := rewritten(l, wide)
		for range 30 {
			place := r.Intn(20)
			c := someOf(r, someChars()...)
			s.Seek(n, place, api.FromStart)
			s.Write(n, c)
			want[place] = rewritten([]uint32{c}, wide)[0]
			s.Seek(n, 0, api.FromStart)
			expectRead(t, s, n, want)
			if _, ok, e := s.Read(n); ok || e != api.OK {
				t.Fatalf("there are more than %d: %d", len(want), e)
			}
		}
	}
}

func TestBuffersAreReadAgain(t *testing.T) {
	r := rand.New(rand.NewSource(15777))
	for range 1000 {
		s, _ := New(0)
		wide := r.Intn(2) == 0
		l := someText(r, 1+r.Intn(30))
		n, _ := s.Buffer(make([]uint32, len(l)), api.StreamBoth, wide)
		place := r.Intn(len(l))
		s.Seek(n, place, api.FromStart)
		s.Write(n, l...)
		s.Seek(n, place, api.FromStart)
		want := rewritten(l[:len(l)-place], wide)
		expectRead(t, s, n, want)
		_, _, all, _ := s.Close(n)
		if !slices.Equal(all, append(make([]uint32, place), want...)) {
			t.Fatalf("%v behind %d of 0, not %v", all, place, want)
		}
	}
}

// P15.8

func TestNeverMoreBytesThanMost(t *testing.T) {
	r := rand.New(rand.NewSource(158))
	full := 0
	for range 300 {
		b := someShelf(t, r, 0)
		for range 100 {
			b.someCall(r)
			n := 0
			for _, name := range b.s.Names() {
				l, _ := b.s.Get(name)
				n += len(l)
			}
			if n > b.m.most || n != b.s.Total() || len(b.s.Names()) > api.MaxFiles || len(b.s.Streams()) > api.MaxStreams {
				t.Fatalf("%d bytes of %d at the most, %d are told; %d files, %d streams", n, b.m.most, b.s.Total(), len(b.s.Names()), len(b.s.Streams()))
			}
			if n == b.m.most {
				full++
			}
		}
	}
	if full < 1000 {
		t.Errorf("only %d times there were as many as may be", full)
	}
}

func TestRefusedChangesNothing(t *testing.T) {
	r := rand.New(rand.NewSource(1588))
	refused := map[api.Errno]int{}
	for range 200 {
		b := someShelf(t, r, r.Intn(60))
		if r.Intn(4) == 0 {
			b = packed(t, r)
		}
		was := tell(b.s, b.m.next, b.s.Names())
		for range 60 {
			e := b.refusedCall(r)
			if e == api.OK {
				t.Fatal("what is to be refused is not")
			}
			refused[e]++
			expectSame(t, "refused", tell(b.s, b.m.next, was.names), was)
		}
		// Nor what is counted, nor the numbers, which are seen later.
		for _, stream := range b.s.Streams() {
			b.close(stream)
		}
		b.buffered(nil, api.StreamRead, false, b.m.next)
	}
	for _, e := range []api.Errno{api.ErrArg, api.ErrMany, api.ErrNone, api.ErrThere, api.ErrFull} {
		if refused[e] < 100 {
			t.Errorf("the error %d came %d times", e, refused[e])
		}
	}
}

// packed: a shelf with as many files and streams as may be.
func packed(t *testing.T, r *rand.Rand) *both {
	t.Helper()
	b := filled(t, 64, 64+r.Intn(20))
	for len(b.s.Streams()) < 64 {
		if r.Intn(2) == 0 {
			b.buffer(someText(r, r.Intn(5)), someOf(r, 1, 2, 3), r.Intn(2) == 0)
		} else {
			b.open(someOf(r, b.s.Names()...), someMode(r), r.Intn(2) == 0)
		}
	}
	return b
}

// refusedCall: a call by chance that is refused, on the shelf alone.
func (b *both) refusedCall(r *rand.Rand) api.Errno {
	none := someOf(r, 0, -1, least, b.m.next, b.m.next+1, 1<<40)
	name, wide := someName(r), r.Intn(2) == 0
	put := func(name string, n int) func() api.Errno {
		return func() api.Errno { return b.s.Put(name, make([]byte, n)) }
	}
	open := func(name string, mode int) func() api.Errno {
		return func() api.Errno {
			_, e := b.s.Open(name, mode, wide)
			return e
		}
	}
	buffer := func(n, mode int) func() api.Errno {
		return func() api.Errno {
			_, e := b.s.Buffer(make([]uint32, n), mode, wide)
			return e
		}
	}
	calls := []func() api.Errno{
		put(someOf(r, wrongNames()...), 0),
		put(name, b.m.most+1),
		open(someOf(r, wrongNames()...), someOf(r, modes()...)),
		open(name, someOf(r, wrongModes()...)),
		open("none", api.StreamRead),
		buffer(4097, api.StreamRead),
		buffer(3, api.StreamAppend),
		func() api.Errno { return b.s.Write(none, 1, 2) },
		func() api.Errno { return b.s.Seek(none, 1, 0) },
		func() api.Errno { _, _, e := b.s.Read(none); return e },
		func() api.Errno { _, e := b.s.Line(none, 5); return e },
		func() api.Errno { _, _, _, e := b.s.Close(none); return e },
	}
	if len(b.s.Names()) == 64 {
		calls = append(calls, put("none", 0), open("none", api.StreamBoth))
	}
	if len(b.s.Streams()) == 64 {
		calls = append(calls, open("0", api.StreamWrite), buffer(0, api.StreamRead))
	}
	for _, stream := range b.s.Streams() {
		calls = append(calls, b.refusedOf(r, stream)...)
	}
	return someOf(r, calls...)()
}

// refusedOf: calls that are refused because of what a stream is, and of what it lies on.
func (b *both) refusedOf(r *rand.Rand, stream int) []func() api.Errno {
	l := b.m.lanes[stream]
	calls := []func() api.Errno{
		func() api.Errno { return b.s.Seek(stream, 1, someOf(r, wrongFroms()...)) },
	}
	if l.mode == api.StreamRead {
		calls = append(calls, func() api.Errno { return b.s.Write(stream, 1, 2) })
	} else if l.onFile && b.m.most <= 1000 {
		calls = append(calls, func() api.Errno { return b.s.Write(stream, make([]uint32, b.m.most+1)...) })
	}
	if l.mode == api.StreamWrite || l.mode == api.StreamAppend {
		calls = append(calls, func() api.Errno { _, _, e := b.s.Read(stream); return e })
		calls = append(calls, func() api.Errno { _, e := b.s.Line(stream, 3); return e })
	}
	if l.onFile {
		calls = append(calls, func() api.Errno { return b.s.Put(l.name, nil) })
		calls = append(calls, func() api.Errno { _, e := b.s.Open(l.name, api.StreamWrite, l.wide); return e })
	}
	return calls
}

// P15.9

func TestABufferHasTheSizeThatItBeganWith(t *testing.T) {
	r := rand.New(rand.NewSource(159))
	for range 300 {
		b := begin(t, 50)
		size := someOf(r, 0, 1, 2, 5, 20)
		mode := someOf(r, api.StreamWrite, api.StreamRead, api.StreamBoth)
		b.buffered(someText(r, size), mode, r.Intn(2) == 0, 1)
		for range 60 {
			b.someCall(r)
			_, n, e := b.s.Tell(1)
			if e != api.OK {
				break
			}
			if n != size {
				t.Fatalf("%d characters, not %d", n, size)
			}
			b.write(1, someText(r, r.Intn(8))...)
			b.seek(1, r.Intn(50)-25, r.Intn(3))
		}
		if _, _, l, e := b.s.Close(1); e == api.OK && len(l) != size {
			t.Fatalf("%d characters are left, not %d", len(l), size)
		}
	}
}

// P15.10

// step is a call that is made of one file alone; what it answers.
type step func(s *Shelf) []any

// stepsOf: calls by chance on the file of that name, by the stream that at holds.
func stepsOf(r *rand.Rand, name string, n int) (l []step) {
	at := 0
	for range n {
		mode, wide, chars := someOf(r, modes()...), r.Intn(2) == 0, someText(r, r.Intn(6))
		place, from, most := r.Intn(30)-10, r.Intn(3), r.Intn(6)
		calls := []step{
			func(s *Shelf) []any {
				k, e := s.Open(name, mode, wide)
				if k != 0 {
					at = k
				}
				return []any{k != 0, e}
			},
			func(s *Shelf) []any { return []any{s.Write(at, chars...)} },
			func(s *Shelf) []any { c, ok, e := s.Read(at); return []any{c, ok, e} },
			func(s *Shelf) []any { l, e := s.Line(at, most); return []any{bytesOf(l, true), e} },
			func(s *Shelf) []any { return []any{s.Seek(at, place, from)} },
			func(s *Shelf) []any { p, size, e := s.Tell(at); return []any{p, size, e} },
			func(s *Shelf) []any { read, written, _, e := s.Close(at); return []any{read, written, e} },
			func(s *Shelf) []any { return []any{s.Put(name, []byte(bytesOf(chars, false)))} },
			func(s *Shelf) []any { return []any{s.Delete(name)} },
			func(s *Shelf) []any { b, ok := s.Get(name); return []any{string(b), ok} },
		}
		l = append(l, someOf(r, calls[r.Intn(len(calls))], calls[0], calls[1], calls[2]))
	}
	return l
}

func TestStreamsOnDifferentFilesHaveNoPartInOneAnother(t *testing.T) {
	r := rand.New(rand.NewSource(1510))
	for range 300 {
		// The same calls on one file: alone, and among calls on others.
		seed := r.Int63()
		again := func() []step { return stepsOf(rand.New(rand.NewSource(seed)), "a", 60) }
		alone, _ := New(api.MaxShelf)
		among, _ := New(api.MaxShelf)
		others := [][]step{stepsOf(r, "b", 400), stepsOf(r, "A", 400), stepsOf(r, "a\x00", 400)}
		mine := again()
		for i, call := range again() {
			for range r.Intn(6) {
				k := r.Intn(len(others))
				if len(others[k]) > 0 {
					others[k][0](among)
					others[k] = others[k][1:]
				}
			}
			want := mine[i](alone)
			if is := call(among); !slices.Equal(is, want) {
				t.Fatalf("the call %d: %v, alone %v", i, is, want)
			}
		}
	}
}

func TestTwoFilesWrittenInTurns(t *testing.T) {
	b := begin(t, 100)
	b.opened("a", api.StreamBoth, false, 1)
	b.opened("b", api.StreamBoth, true, 2)
	b.wrote(1, 'a')
	b.wrote(2, 'b')
	b.wrote(1, 'c')
	b.moved(2, 0, api.FromStart, 0)
	b.wrote(1, 'd')
	b.reads(2, 'b')
	b.moved(1, 1, api.FromStart, 1)
	b.wrote(2, 'e')
	b.reads(1, 'c', 'd')
	b.has("a", "acd")
	b.has("b", "\x00\x00\x00b\x00\x00\x00e")
	b.closed(2, 1, 2)
	b.stands(1, 3, 3)
	b.deleted("b", true)
	b.laid("c", "xyz")
	b.closed(1, 2, 3)
	b.has("a", "acd")
}
