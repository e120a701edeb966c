package blorb

import (
	"bytes"
	"math/rand"
	"slices"
	"testing"

	"grotto/api"
)

// P6.1

// layouts: resources, and the bytes of the container that Lay makes of them, written out.
func layouts() []struct {
	what      string
	resources []api.Resource
	bytes     string
} {
	return []struct {
		what      string
		resources []api.Resource
		bytes     string
	}{
		{"none", nil, "FORM\x00\x00\x00\x10IFRSRIdx\x00\x00\x00\x04\x00\x00\x00\x00"},
		{"a game", []api.Resource{{Usage: "Exec", Id: "GLUL", Data: []byte("Glul..")}},
			"FORM\x00\x00\x00\x2aIFRSRIdx\x00\x00\x00\x10\x00\x00\x00\x01Exec\x00\x00\x00\x00\x00\x00\x00\x24GLUL\x00\x00\x00\x06Glul.."},
		{"no data", []api.Resource{{Usage: "    ", Number: 1<<32 - 1, Id: "~~~~"}},
			"FORM\x00\x00\x00\x24IFRSRIdx\x00\x00\x00\x10\x00\x00\x00\x01    \xff\xff\xff\xff\x00\x00\x00\x24~~~~\x00\x00\x00\x00"},
		{"none, odd and even", []api.Resource{{Usage: "Data", Number: 0x01020304, Id: "TEXT"}, {Usage: "Data", Number: 2, Id: "TEXT", Data: []byte("a")}, {Usage: "Snd ", Number: 2, Id: "RIdx", Data: []byte{0, 255}}, {Usage: "Pict", Number: 1, Id: "PNG "}},
			"FORM\x00\x00\x00\x64IFRSRIdx\x00\x00\x00\x34\x00\x00\x00\x04" +
				"Data\x01\x02\x03\x04\x00\x00\x00\x48Data\x00\x00\x00\x02\x00\x00\x00\x50Snd \x00\x00\x00\x02\x00\x00\x00\x5aPict\x00\x00\x00\x01\x00\x00\x00\x64" +
				"TEXT\x00\x00\x00\x00TEXT\x00\x00\x00\x01a\x00RIdx\x00\x00\x00\x02\x00\xffPNG \x00\x00\x00\x00"},
	}
}

func TestLayout(t *testing.T) {
	for _, c := range layouts() {
		expectRead(t, c.what, []byte(c.bytes), c.resources...)
		if b, e := Lay(c.resources...); e != api.OK || string(b) != c.bytes {
			t.Errorf("%s: Lay = %q, %d; not %q", c.what, b, e, c.bytes)
		}
	}
}

// P6.2

// threeChunks: three chunks, and where they begin behind an index of n entries.
func threeChunks(n int) (places [3]int, chunks []byte) {
	first := 24 + 12*n
	return [3]int{first, first + 12, first + 20}, laid(chunkOf("odd ", "xyz"), chunkOf("none"), chunkOf("even", "wx"))
}

func TestReadOrderOfTheIndex(t *testing.T) {
	at, chunks := threeChunks(3)
	b := indexed(laid(3, "Pict", 7, at[2], "Snd ", 7, at[0], "Exec", 0, at[1]), chunks)
	expectRead(t, "another order than the chunks'", b,
		api.Resource{Usage: "Pict", Number: 7, Id: "even", Data: []byte("wx")},
		api.Resource{Usage: "Snd ", Number: 7, Id: "odd ", Data: []byte("xyz")},
		api.Resource{Usage: "Exec", Id: "none"})
}

func TestReadOneChunkOfSeveral(t *testing.T) {
	at, chunks := threeChunks(4)
	b := indexed(laid(4, "Pict", 1, at[0], "Pict", 2, at[0], "Snd ", 1, at[0], "Pict", 3, at[2]), chunks)
	odd := []byte("xyz")
	expectRead(t, "three entries with one chunk", b,
		api.Resource{Usage: "Pict", Number: 1, Id: "odd ", Data: odd},
		api.Resource{Usage: "Pict", Number: 2, Id: "odd ", Data: odd},
		api.Resource{Usage: "Snd ", Number: 1, Id: "odd ", Data: odd},
		api.Resource{Usage: "Pict", Number: 3, Id: "even", Data: []byte("wx")})
	var entries []byte
	want := numbered(api.MaxResources, "a")
	for i := range want {
		entries = laid(entries, "Pict", i, 24+12*api.MaxResources)
	}
	expectRead(t, "MaxResources entries with one chunk", indexed(laid(api.MaxResources, entries), chunkOf("PNG ", "a")), want...)
}

func TestReadPassesOver(t *testing.T) {
	at, chunks := threeChunks(1)
	for i, want := range []api.Resource{{Usage: "Exec", Id: "odd ", Data: []byte("xyz")}, {Usage: "Exec", Id: "none"}, {Usage: "Exec", Id: "even", Data: []byte("wx")}} {
		expectRead(t, "two chunks that no entry has", indexed(laid(1, "Exec", 0, at[i]), chunks), want)
	}
	expectRead(t, "chunks alone", indexed(laid(0), chunks))
	// What looks like an index, but does not stand first, is a chunk like others.
	second := chunkOf("RIdx", "no index")
	expectRead(t, "another index, passed over", indexed(laid(0), second))
	expectRead(t, "another index, a resource", indexed(laid(1, "Data", 0, 36), second), api.Resource{Usage: "Data", Id: "RIdx", Data: []byte("no index")})
}

func TestReadFormFaults(t *testing.T) {
	index := chunkOf("RIdx", 1, "Exec", 0, 36)
	game := chunkOf("GLUL", "Glul!")
	whole := formOf("IFRS", index, game)
	wrong := bytes.Clone(whole)
	wrong[7]++
	many := bytes.Repeat(chunkOf("none"), api.MaxChunks)
	for _, c := range []struct {
		what string
		b    []byte
		e    api.Errno
		at   int
	}{
		{"long", make([]byte, api.MaxForm+1), api.ErrLong, 0},
		{"long, of these letters", laid("FORM", api.MaxForm-7, "IFRS", make([]byte, api.MaxForm-11)), api.ErrLong, 0},
		{"a game", laid("Glul and more"), api.ErrForm, 0},
		{"nothing", nil, api.ErrShort, 0},
		{"letters alone", laid("FORM"), api.ErrShort, 4},
		{"one byte too few", whole[:len(whole)-1], api.ErrSize, 4},
		{"one byte too much", laid(whole, "\x00"), api.ErrSize, 4},
		{"a wrong number", wrong, api.ErrSize, 4},
		{"no kind", formOf("IFR\x00", index, game), api.ErrForm, 8},
		{"many chunks", formOf("IFRS", index, many), api.ErrMany, 36 + 8*(api.MaxChunks-1)},
		{"few bytes of a chunk", formOf("IFRS", index, "GLUL"), api.ErrShort, 40},
		{"no letters", formOf("IFRS", index, "GLU\x7f", 0), api.ErrForm, 36},
		{"data beyond", formOf("IFRS", index, "GLUL", 7, "Glul!"), api.ErrSize, 40},
		{"no byte behind", formOf("IFRS", index, "GLUL", 5, "Glul!"), api.ErrShort, 49},
		{"1 behind", formOf("IFRS", index, "GLUL", 5, "Glul!\x01"), api.ErrPad, 49},
	} {
		expectFault(t, c.what, c.b, c.e, c.at)
	}
}

func TestReadKindFaults(t *testing.T) {
	for _, kind := range []string{"IFZS", "IFRs", "ifrs", "IFR ", " IFR", "FORM", "RIdx"} {
		expectFault(t, kind, formOf(kind, chunkOf("RIdx", 1, "Exec", 0, 36), chunkOf("GLUL")), api.ErrKind, 8)
		expectFault(t, kind+" alone", formOf(kind), api.ErrKind, 8)
	}
}

func TestReadIndexFaults(t *testing.T) {
	game := chunkOf("GLUL", "Glul")
	entry := laid("Exec", 0, 36)
	for _, c := range []struct {
		what string
		b    []byte
	}{
		{"no chunk", formOf("IFRS")},
		{"no index", formOf("IFRS", game)},
		{"a small letter", formOf("IFRS", chunkOf("Ridx", 1, entry), game)},
		{"behind a chunk", formOf("IFRS", game, chunkOf("RIdx", 1, "Exec", 0, 12))},
		{"behind a chunk, without entries", formOf("IFRS", chunkOf("none"), chunkOf("RIdx", 0))},
		{"no data", indexed(nil, game)},
		{"one byte", indexed(laid("\x00"), game)},
		{"three bytes", indexed(laid("\x00\x00\x00"), game)},
		{"three bytes that say an entry", indexed(laid("\x00\x00\x01"), game)},
		{"none said, one byte there", indexed(laid(0, "\x00"), game)},
		{"none said, one there", indexed(laid(0, entry), game)},
		{"one said, none there", indexed(laid(1), game)},
		{"one said, a byte too few", indexed(laid(1, entry[:11]), game)},
		{"one said, a byte too much", indexed(laid(1, entry, "\x00"), game)},
		{"one said, two there", indexed(laid(1, entry, "Pict", 0, 48), game)},
		{"two said, one there", indexed(laid(2, entry), game)},
		{"twelve bytes said", indexed(laid(12, entry), game)},
		{"another byte of the number", indexed(laid(0x101, entry), game)},
		{"the highest byte of the number", indexed(laid(0x1000001, entry), game)},
		{"the greatest number", indexed(laid(-1, entry), game)},
		{"wraps round to none", indexed(laid(0x40000000), game)},
		{"wraps round to one", indexed(laid(0x40000001, entry), game)},
		{"wraps round to one, below 0", indexed(laid(-0x40000000+1, entry), game)},
		{"wraps round, the highest bit", indexed(laid(-0x80000000), game)},
		{"many said, not so many there", indexed(laid(api.MaxResources+1, entry), game)},
	} {
		expectFault(t, c.what, c.b, api.ErrIndex, 12)
	}
}

func TestReadMany(t *testing.T) {
	expectRead(t, "just MaxResources", containerOf(numbered(api.MaxResources, "a")...), numbered(api.MaxResources, "a")...)
	for _, n := range []int{api.MaxResources + 1, api.MaxResources + 2, 2 * api.MaxResources, 0x10000} {
		var entries []byte
		for i := range n {
			entries = append(entries, laid("Pict", i, 24+12*n)...)
		}
		expectFault(t, "right but for their number", indexed(laid(n, entries), chunkOf("none")), api.ErrMany, 12)
		expectFault(t, "with faults of their own", indexed(laid(n, make([]byte, 12*n)), chunkOf("none")), api.ErrMany, 12)
		expectFault(t, "a byte too few", indexed(laid(n, entries[1:]), chunkOf("none")), api.ErrIndex, 12)
	}
}

func TestReadUsageFaults(t *testing.T) {
	at, chunks := threeChunks(3)
	for i := range 3 {
		p := 24 + 12*i
		for letter := range 4 {
			for _, c := range []byte{0, 0x1f, 0x20, 0x7e, 0x7f, 0x80, 0xff} {
				b := indexed(laid(3, "Pict", 0, at[0], "Pict", 1, at[1], "Pict", 2, at[2]), chunks)
				b[p+letter] = c
				if c == 0x20 || c == 0x7e {
					if _, e, _ := Read(b); e != api.OK {
						t.Errorf("the Usage of entry %d with %x is refused: %d", i, c, e)
					}
					continue
				}
				expectFault(t, "a wrong Usage", b, api.ErrIndex, p)
			}
		}
	}
}

func TestReadThereFaults(t *testing.T) {
	at, chunks := threeChunks(3)
	for _, c := range []struct {
		what    string
		entries []byte
		e       api.Errno
		at      int
	}{
		{"the second like the first", laid("Pict", 1, at[0], "Pict", 1, at[1], "Snd ", 1, at[2]), api.ErrThere, 36},
		{"the third like the first", laid("Pict", 1, at[0], "Snd ", 1, at[1], "Pict", 1, at[2]), api.ErrThere, 48},
		{"the third like the second", laid("Snd ", 1, at[0], "Pict", 1, at[1], "Pict", 1, at[2]), api.ErrThere, 48},
		{"of one chunk, too", laid("Pict", 1, at[0], "Snd ", 1, at[1], "Pict", 1, at[0]), api.ErrThere, 48},
		{"all alike", laid("Pict", 1, at[0], "Pict", 1, at[0], "Pict", 1, at[0]), api.ErrThere, 36},
		{"numbers of other bytes", laid("Pict", 1, at[0], "Pict", 0x101, at[0], "Pict", 0x1000001, at[0]), api.OK, 0},
		{"usages of other letters", laid("Pict", 1, at[0], "pict", 1, at[1], "Pic ", 1, at[2]), api.OK, 0},
	} {
		b := indexed(laid(3, c.entries), chunks)
		if c.e != api.OK {
			expectFault(t, c.what, b, c.e, c.at)
		} else if l, e, at := Read(b); len(l) != 3 || e != api.OK || at != len(b) {
			t.Errorf("%s: Read = %d resources, %d at %d", c.what, len(l), e, at)
		}
	}
}

func TestReadPlaceFaults(t *testing.T) {
	// The data of the first chunk look like chunks themselves.
	chunks := laid(chunkOf("nest", chunkOf("PNG ", "abcd"), "x"), chunkOf("none"), chunkOf("last", "y"))
	good := []int{60, 82, 90}
	for i := range 3 {
		taken := 0
		for place := -300; place < 300; place++ {
			at := slices.Clone(good)
			at[i] = place
			b := indexed(laid(3, "Pict", 0, at[0], "Pict", 1, at[1], "Pict", 2, at[2]), chunks)
			if slices.Contains(good, place) {
				taken++
				if l, e, _ := Read(b); e != api.OK || len(l) != 3 {
					t.Errorf("entry %d with the place %d is refused: %d", i, place, e)
				}
				continue
			}
			expectFault(t, "a place at which no chunk begins", b, api.ErrIndex, 24+12*i+8)
		}
		if taken != 3 {
			t.Errorf("entry %d: %d places are taken, not 3", i, taken)
		}
	}
	for _, place := range []int{0x7fffffff, -0x80000000, 36 + 0x1000000, 36 - 0x80000000, 36 << 8, 36 << 24} {
		expectFault(t, "a place far beyond", indexed(laid(1, "Exec", 0, place), chunkOf("GLUL")), api.ErrIndex, 32)
	}
	expectFault(t, "the index, alone", indexed(laid(1, "Exec", 0, 12)), api.ErrIndex, 32)
	expectFault(t, "the end", indexed(laid(1, "Exec", 0, 36)), api.ErrIndex, 32)
}

func TestReadFirstFault(t *testing.T) {
	at, chunks := threeChunks(3)
	three := func(parts ...any) []byte { return indexed(laid(3, laid(parts...)), chunks) }
	fine, bad := "Pict", "Pic\x00"
	for _, c := range []struct {
		what string
		b    []byte
		e    api.Errno
		at   int
	}{
		{"the form, and its kind", laid(formOf("IFZS"), "\x00"), api.ErrSize, 4},
		{"the form behind, and its kind", formOf("IFZS", "abc"), api.ErrShort, 15},
		{"the form behind, and no index", formOf("IFRS", chunkOf("none"), "abc"), api.ErrShort, 23},
		{"the form behind, and an entry", formOf("IFRS", chunkOf("RIdx", 1, bad, 0, 0), "abc"), api.ErrShort, 39},
		{"kind, and no chunk", formOf("IFZS"), api.ErrKind, 8},
		{"kind, and no index", formOf("IFZS", chunkOf("none")), api.ErrKind, 8},
		{"kind, and an entry", formOf("IFZS", chunkOf("RIdx", 1, bad, 0, 0)), api.ErrKind, 8},
		{"the index, and an entry", indexed(laid(2, bad, 0, 0)), api.ErrIndex, 12},
		{"Usage, and place", three(bad, 0, 0, fine, 1, at[1], fine, 2, at[2]), api.ErrIndex, 24},
		{"there, and place", three(fine, 0, at[0], fine, 0, 0, fine, 2, at[2]), api.ErrThere, 36},
		{"Usage, there, and place", three(fine, 0, at[0], bad, 0, 0, bad, 0, 0), api.ErrIndex, 36},
		{"place ahead of Usage", three(fine, 0, 0, bad, 1, at[1], fine, 2, at[2]), api.ErrIndex, 32},
		{"place ahead of there", three(fine, 0, 0, fine, 0, at[1], fine, 2, at[2]), api.ErrIndex, 32},
		{"place ahead of there, the second", three(fine, 0, at[0], fine, 1, 13, fine, 0, at[2]), api.ErrIndex, 44},
		{"there ahead of Usage", three(fine, 0, at[0], fine, 0, at[1], bad, 2, at[2]), api.ErrThere, 36},
		{"Usage ahead of there", three(fine, 0, at[0], bad, 1, at[1], fine, 0, at[2]), api.ErrIndex, 36},
		{"two places", three(fine, 0, at[0], fine, 1, 12, fine, 2, 12), api.ErrIndex, 44},
		{"two that are there", three(fine, 0, at[0], fine, 0, at[1], fine, 0, at[2]), api.ErrThere, 36},
	} {
		expectFault(t, c.what, c.b, c.e, c.at)
	}
}

func TestReadBytesByChance(t *testing.T) {
	r := rand.New(rand.NewSource(6))
	seen := map[api.Errno]int{}
	for range 100000 {
		b := containerOf(someResources(r, 4)...)
		for range r.Intn(3) {
			b[r.Intn(len(b))] = someOf[byte](r, 0, 1, 2, 12, 36, 48, 60, 0x1f, 0x20, 0x7e, 0x7f, 0xff)
		}
		if n := int(b[23]); n > 1 && len(b) >= 48 && r.Intn(3) == 0 {
			// An entry, or a part of it, twice.
			from := r.Intn(12)
			copy(b[36+from:48], b[24+from:36])
		}
		if r.Intn(8) == 0 {
			b = b[:r.Intn(len(b)+1)]
		}
		wantL, wantE, wantAt := readOf(b)
		seen[wantE]++
		if l, e, at := Read(b); !same(l, wantL) || e != wantE || at != wantAt {
			t.Fatalf("Read(%q) = %v, %d at %d; not %v, %d at %d", b, l, e, at, wantL, wantE, wantAt)
		}
		wantG, wantE, wantAt := gameOf(b)
		seen[wantE]++
		if g, e, at := Game(b); !bytes.Equal(g, wantG) || e != wantE || at != wantAt {
			t.Fatalf("Game(%q) = %q, %d at %d; not %q, %d at %d", b, g, e, at, wantG, wantE, wantAt)
		}
	}
	for _, e := range []api.Errno{api.OK, api.ErrForm, api.ErrSize, api.ErrKind, api.ErrIndex, api.ErrThere, api.ErrExec, api.ErrMagic} {
		if seen[e] < 100 {
			t.Errorf("the error %d was seen %d times alone", e, seen[e])
		}
	}
}

// P6.3

func TestLayByChance(t *testing.T) {
	r := rand.New(rand.NewSource(63))
	for range 5000 {
		l := someResources(r, 12)
		if b, e := Lay(l...); e != api.OK || !bytes.Equal(b, containerOf(l...)) {
			t.Fatalf("Lay(%v) = %q, %d; not %q", l, b, e, containerOf(l...))
		}
	}
}

func TestLayLetters(t *testing.T) {
	for s, want := range map[string]api.Errno{
		"": api.ErrArg, "a": api.ErrArg, "abc": api.ErrArg, "abcde": api.ErrArg, "éé": api.ErrArg,
		"\x1fbcd": api.ErrArg, "a\x7fcd": api.ErrArg, "ab\x00d": api.ErrArg, "abc\x80": api.ErrArg,
		"    ": api.OK, "~~~~": api.OK, "a\"c'": api.OK,
	} {
		for i := range 3 {
			l := numbered(3, "x")
			l[i].Usage = s
			expectError(t, "Usage "+s, want, l...)
			l = numbered(3, "x")
			l[i].Id = s
			expectError(t, "Id "+s, want, l...)
		}
	}
}

// expectError: Lay tells this error, and no bytes beside a fault.
func expectError(t *testing.T, what string, e api.Errno, l ...api.Resource) {
	t.Helper()
	if b, f := Lay(l...); f != e || (len(b) == 0) != (e != api.OK) {
		t.Errorf("%s: Lay of %d resources = %d bytes, %d; not %d", what, len(l), len(b), f, e)
	}
}

func TestLayFaults(t *testing.T) {
	huge := api.Resource{Usage: "Data", Number: 9, Id: "BINA", Data: make([]byte, api.MaxForm)}
	one := api.Resource{Usage: "Pict", Number: 1, Id: "PNG ", Data: []byte("x")}
	other := api.Resource{Usage: "Pict", Number: 1, Id: "JPEG", Data: []byte("yz")}
	noUsage := api.Resource{Usage: "Pic", Number: 1, Id: "PNG "}
	noId := api.Resource{Usage: "Pict", Number: 1, Id: "PNG\x7f"}
	many := numbered(api.MaxResources+1, "x")
	with := func(l []api.Resource, more ...api.Resource) []api.Resource {
		return append(slices.Clone(l), more...)
	}
	list := func(l ...api.Resource) []api.Resource { return l }
	for _, c := range []struct {
		what string
		l    []api.Resource
		e    api.Errno
	}{
		{"many", many, api.ErrMany},
		{"there", list(one, other), api.ErrThere},
		{"there, far from each other", with(numbered(api.MaxResources-1, "x"), api.Resource{Usage: "Pict", Id: "PNG "}), api.ErrThere},
		{"long", list(huge), api.ErrLong},
		{"Usage, and many", with(many, noUsage), api.ErrArg},
		{"Id, and many", with(many, noId), api.ErrArg},
		{"Usage behind there", list(one, other, noUsage), api.ErrArg},
		{"Id behind there", list(one, noId), api.ErrArg},
		{"Usage twice", list(noUsage, noUsage), api.ErrArg},
		{"Id behind long", list(huge, noId), api.ErrArg},
		{"many, and there", with(many, one), api.ErrMany},
		{"there twice ahead of many", with(list(one, other), many...), api.ErrMany},
		{"many, and long", with(many, huge), api.ErrMany},
		{"there, and long", list(huge, one, other), api.ErrThere},
		{"there, of long ones", list(huge, huge), api.ErrThere},
		{"all four", with(many, one, huge, noId), api.ErrArg},
		{"one Usage, one Id, other Numbers", list(one, api.Resource{Usage: "Pict", Number: 2, Id: "PNG "}), api.OK},
		{"one Number, one Id, other Usages", list(one, api.Resource{Usage: "Snd ", Number: 1, Id: "PNG "}), api.OK},
	} {
		expectError(t, c.what, c.e, c.l...)
	}
}

func TestLayJustSo(t *testing.T) {
	for _, c := range []struct {
		n  int
		ok bool
	}{{api.MaxForm - 45, true}, {api.MaxForm - 44, true}, {api.MaxForm - 43, false}, {api.MaxForm - 42, false}} {
		r := api.Resource{Usage: "Exec", Id: "GLUL", Data: bytes.Repeat([]byte{9}, c.n)}
		if !c.ok {
			expectError(t, "just too long", api.ErrLong, r)
			continue
		}
		b := expectLaid(t, "just so long", r)
		if len(b) != api.MaxForm {
			t.Errorf("data of %d bytes: %d bytes", c.n, len(b))
		}
		expectGame(t, "just so long", b, r.Data)
	}
	// A place that shows in three bytes of its number.
	expectLaid(t, "a place far behind", api.Resource{Usage: "Data", Id: "BINA", Data: make([]byte, 0x20305)}, api.Resource{Usage: "Exec", Id: "GLUL"})
	for _, data := range []string{"", "a", "ab"} {
		l := numbered(api.MaxResources, data)
		if b := expectLaid(t, "just MaxResources", l...); !bytes.Equal(b, containerOf(l...)) {
			t.Errorf("MaxResources resources with %q are not laid right", data)
		}
		expectError(t, "one more", api.ErrMany, numbered(api.MaxResources+1, data)...)
	}
}

// P6.4

func TestGameItself(t *testing.T) {
	for _, s := range []string{"Glul", "Glul and more", "Glul\x00\x03\x01\x02", "GlulFORM", "GlulGlul"} {
		expectGame(t, s, []byte(s), []byte(s))
	}
	long := laid("Glul", make([]byte, api.MaxForm))
	expectGame(t, "longer than a form", long, long)
}

func TestGameOfOtherBytes(t *testing.T) {
	for _, s := range []string{"", "a", "abc", "G", "Gl", "Glu", "F", "FO", "FOR", "Glum", "GLUL", "glul", "form", "FORm", "IFRS", "RIdx", " Glul", "\x00FORM", "abcdGlul", "Glu\x00Glul", "GLUL\x00\x00\x00\x04Glul"} {
		expectNoGame(t, s, []byte(s), api.ErrMagic, 0)
	}
	for _, magic := range []string{"Glul", "FORM"} {
		for i := range 4 {
			b := laid(magic, "and more")
			b[i] ^= 0x20
			expectNoGame(t, "a letter turned", b, api.ErrMagic, 0)
		}
	}
	expectNoGame(t, "long", make([]byte, api.MaxForm+1), api.ErrMagic, 0)
}

func TestGameExec(t *testing.T) {
	game := []byte("Glul!")
	for _, c := range []struct {
		what string
		l    []api.Resource
	}{
		{"no resources", nil},
		{"another Usage", []api.Resource{{Usage: "Data", Id: "GLUL", Data: game}}},
		{"a small letter", []api.Resource{{Usage: "exec", Id: "GLUL", Data: game}}},
		{"another Number", []api.Resource{{Usage: "Exec", Number: 1, Id: "GLUL", Data: game}}},
		{"another Number, high", []api.Resource{{Usage: "Exec", Number: 1 << 31, Id: "GLUL", Data: game}}},
		{"another Id", []api.Resource{{Usage: "Exec", Id: "ZCOD", Data: game}}},
		{"the Id Glul", []api.Resource{{Usage: "Exec", Id: "Glul", Data: game}}},
		{"another Id, and GLUL elsewhere", []api.Resource{{Usage: "Exec", Id: "ZCOD", Data: game}, {Usage: "Exec", Number: 1, Id: "GLUL", Data: game}, {Usage: "Data", Id: "GLUL", Data: game}}},
	} {
		b := expectLaid(t, c.what, c.l...)
		expectNoGame(t, c.what, b, api.ErrExec, 12)
	}
	for _, data := range []string{"", "G", "Glul", "no game, for all that", "FORM"} {
		b := expectLaid(t, data, api.Resource{Usage: "Exec", Id: "GLUL", Data: []byte(data)})
		expectGame(t, data, b, []byte(data))
	}
}

func TestGameFaultsOfOthers(t *testing.T) {
	// A fault of Read counts, though the game's own entry is fine and stands ahead of it.
	game := chunkOf("GLUL", "Glul")
	expectNoGame(t, "a place behind the game's", indexed(laid(2, "Exec", 0, 48, "Pict", 0, 49), game), api.ErrIndex, 44)
	expectNoGame(t, "another game", indexed(laid(2, "Exec", 0, 48, "Exec", 0, 48), game), api.ErrThere, 36)
	expectNoGame(t, "a Usage behind the game's", indexed(laid(2, "Exec", 0, 48, "\x00ict", 0, 48), game), api.ErrIndex, 36)
	expectNoGame(t, "a chunk that no entry has", formOf("IFRS", chunkOf("RIdx", 1, "Exec", 0, 36), game, "abcd", 1, "x\x01"), api.ErrPad, 57)
	expectNoGame(t, "no game, and a place", indexed(laid(1, "Pict", 0, 37), game), api.ErrIndex, 32)
	expectGame(t, "the game's chunk has another entry, too", indexed(laid(2, "Pict", 3, 48, "Exec", 0, 48), game), []byte("Glul"))
}

// Rules that hold everywhere: Memory

func TestNothingIsShared(t *testing.T) {
	at, chunks := threeChunks(3)
	room := append(make([]byte, 0, 256), indexed(laid(3, "Pict", 1, at[0], "Pict", 2, at[0], "Exec", 0, at[2]), chunks)...)
	whole := bytes.Clone(room[:cap(room)])
	l, _, _ := Read(room)
	again, _, _ := Read(room)
	fill(l[0].Data, 1)
	if string(l[1].Data) != "xyz" || string(l[2].Data) != "wx" || string(again[0].Data) != "xyz" || !bytes.Equal(room[:cap(room)], whole) {
		t.Error("data that Read answers are shared")
	}
	data := append(make([]byte, 0, 9), "Glul!"...)
	resources := append(make([]api.Resource, 0, 4), api.Resource{Usage: "Exec", Id: "GLUL", Data: data}, api.Resource{Usage: "Data", Id: "BINA", Data: data})
	b, _ := Lay(resources...)
	other, _ := Lay(resources...)
	laidOther := bytes.Clone(other)
	fill(b, 2)
	if !bytes.Equal(data[:9], []byte("Glul!\x00\x00\x00\x00")) || !bytes.Equal(other, laidOther) {
		t.Error("bytes that Lay answers are shared")
	}
	if !same(resources, []api.Resource{{Usage: "Exec", Id: "GLUL", Data: []byte("Glul!")}, {Usage: "Data", Id: "BINA", Data: []byte("Glul!")}}) || resources[:4][2].Usage != "" {
		t.Error("the resources that were handed in have changed")
	}
	for _, from := range [][]byte{other, data} {
		kept := bytes.Clone(from[:cap(from)])
		g, _, _ := Game(from)
		h, _, _ := Game(from)
		fill(g, 3)
		if string(h) != "Glul!" || !bytes.Equal(from[:cap(from)], kept) {
			t.Error("a game that Game answers is shared")
		}
	}
}

// fill: all bytes of b, its spare room included, become c.
func fill(b []byte, c byte) {
	b = b[:cap(b)]
	for i := range b {
		b[i] = c
	}
}
