package iff

import (
	"bytes"
	"math/rand"
	"slices"
	"strings"
	"testing"

	"grotto/api"
)

// P5.1

func TestIdLetters(t *testing.T) {
	for place := range 4 {
		for c := range 256 {
			b := []byte("FORM")
			b[place] = byte(c)
			if want := c >= 0x20 && c <= 0x7e; Id(string(b)) != want {
				t.Errorf("Id(%q) is not %t", b, want)
			}
		}
	}
}

func TestIdLength(t *testing.T) {
	for n := range 12 {
		if s := strings.Repeat("a", n); Id(s) != (n == 4) {
			t.Errorf("Id(%q) is not %t", s, n == 4)
		}
	}
	for _, s := range []string{"    ", "~~~~", " ~ ~", "a  b"} {
		if !Id(s) {
			t.Errorf("Id(%q) is false", s)
		}
	}
	// Four characters of more than four bytes, and four bytes that are two characters.
	for _, s := range []string{"abcé", "éé", "\U0001f600", "abc\x00"} {
		if Id(s) {
			t.Errorf("Id(%q) is true", s)
		}
	}
}

// P5.2

// layouts: chunks, and the bytes of the form of them, written out.
func layouts() []struct {
	kind   string
	chunks []api.Chunk
	bytes  string
} {
	return []struct {
		kind   string
		chunks []api.Chunk
		bytes  string
	}{
		{"IFZS", nil, "FORM\x00\x00\x00\x04IFZS"},
		{"IFZS", []api.Chunk{{Id: "UMem", Data: []byte{7, 8, 9}}}, "FORM\x00\x00\x00\x10IFZSUMem\x00\x00\x00\x03\x07\x08\x09\x00"},
		{"    ", []api.Chunk{{Id: "~~~~"}}, "FORM\x00\x00\x00\x0c    ~~~~\x00\x00\x00\x00"},
		{"FORM", []api.Chunk{{Id: "FORM", Data: []byte("FORM")}}, "FORM\x00\x00\x00\x10FORMFORM\x00\x00\x00\x04FORM"},
		{"ab d", []api.Chunk{{Id: "one ", Data: []byte{0}}, {Id: "none"}, {Id: "two ", Data: []byte{0, 255}}, {Id: "one ", Data: []byte{1}}},
			"FORM\x00\x00\x00\x2aab done \x00\x00\x00\x01\x00\x00none\x00\x00\x00\x00two \x00\x00\x00\x02\x00\xffone \x00\x00\x00\x01\x01\x00"},
	}
}

func TestLayout(t *testing.T) {
	for _, c := range layouts() {
		expectTaken(t, []byte(c.bytes), c.kind, c.chunks...)
		if b, e := Build(c.kind, c.chunks...); e != api.OK || string(b) != c.bytes {
			t.Errorf("Build(%q, %v) = %q, %d; not %q", c.kind, c.chunks, b, e, c.bytes)
		}
	}
}

func TestNumbersOfAllBytes(t *testing.T) {
	// Lengths that show in each byte of a number that a form can hold.
	for _, n := range []int{1, 2, 255, 256, 257, 0x10203, 0x3fffe0} {
		data := bytes.Repeat([]byte{0x5a}, n)
		form := formOf("Kind", "Data", n, data, make([]byte, n%2))
		expectTaken(t, form, "Kind", api.Chunk{Id: "Data", Data: data})
		if b, e := Build("Kind", api.Chunk{Id: "Data", Data: data}); e != api.OK || !bytes.Equal(b, form) {
			t.Errorf("data of %d bytes are not laid right: error %d", n, e)
		}
	}
}

// P5.3

func TestParseHeadFaults(t *testing.T) {
	for i := range 12 {
		expectFault(t, "a beginning", []byte("FORM\x00\x00\x00\x04IFZS")[:i], api.ErrShort, i)
	}
	for i := range 4 {
		for _, c := range []byte{0, ' ', "form"[i], 0xff} {
			b := []byte("FORM\x00\x00\x00\x04IFZS")
			b[i] = c
			for n := i + 1; n <= len(b); n++ {
				expectFault(t, "not FORM", b[:n], api.ErrForm, 0)
			}
		}
	}
	for _, n := range []int{0, 3, 5, 12, 0x104, 0x10004, 0x1000004, -1} {
		expectFault(t, "wrong number", laid("FORM", n, "IFZS"), api.ErrSize, 4)
	}
	for _, kind := range []string{"\x1fabc", "abc\x7f", "ab\x00d", "a\x80cd", "\xffabc"} {
		expectFault(t, "wrong kind", formOf(kind), api.ErrForm, 8)
		expectFault(t, "wrong kind with a chunk", formOf(kind, "abcd", 0), api.ErrForm, 8)
	}
	for _, kind := range []string{"    ", "~~~~"} {
		expectTaken(t, formOf(kind), kind)
	}
}

func TestParseChunkFaults(t *testing.T) {
	ahead := laid("odd ", 3, "abc", "\x00") // so that the chunk looked at begins at 24
	for _, c := range []struct {
		what string
		rest []byte
		e    api.Errno
		at   int
	}{
		{"one byte", laid("a"), api.ErrShort, 25},
		{"letters alone", laid("abcd"), api.ErrShort, 28},
		{"seven bytes", laid("abcd", "\x00\x00\x00"), api.ErrShort, 31},
		{"no letter first", laid("\x1fbcd", 0), api.ErrForm, 24},
		{"no letter last", laid("abc\x7f", 0), api.ErrForm, 24},
		{"no letter, with data", laid("ab\xffd", 2, "xy"), api.ErrForm, 24},
		{"data of one byte too few, none there", laid("abcd", 1), api.ErrSize, 28},
		{"data of one byte too few", laid("abcd", 5, "wxyz"), api.ErrSize, 28},
		{"data beyond by two", laid("abcd", 6, "wxyz"), api.ErrSize, 28},
		{"the greatest number", laid("abcd", -1, "wxyz"), api.ErrSize, 28},
		{"the greatest integer", laid("abcd", 0x7fffffff, "wxyz"), api.ErrSize, 28},
		{"the least integer", laid("abcd", 0x80000000, "wxyz"), api.ErrSize, 28},
		{"a number that wraps round to the end", laid("abcd", -32, "wxyz"), api.ErrSize, 28},
		{"no byte behind one", laid("abcd", 1, "x"), api.ErrShort, 33},
		{"no byte behind three", laid("abcd", 3, "xyz"), api.ErrShort, 35},
		{"1 behind", laid("abcd", 1, "x\x01"), api.ErrPad, 33},
		{"a letter behind", laid("abcd", 3, "xyza"), api.ErrPad, 35},
		{"255 behind, and more", laid("abcd", 3, "xyz\xff", "abcd", 0), api.ErrPad, 35},
		{"a byte too much", laid("abcd", 2, "xy\x00"), api.ErrShort, 35},
	} {
		expectFault(t, c.what, formOf("IFZS", ahead, c.rest), c.e, c.at)
		expectFault(t, c.what+", alone", formOf("IFZS", c.rest), c.e, c.at-len(ahead))
	}
}

func TestParseFirstFault(t *testing.T) {
	long := make([]byte, api.MaxForm+1)
	for _, c := range []struct {
		what string
		b    []byte
		e    api.Errno
		at   int
	}{
		{"long, and not FORM", long, api.ErrLong, 0},
		{"not FORM, and short", laid("FX"), api.ErrForm, 0},
		{"not FORM, and a wrong number", laid("FORX", 9, "IFZS"), api.ErrForm, 0},
		{"short, and a wrong number", laid("FORM", 0), api.ErrShort, 8},
		{"short, and no kind", laid("FORM", 3, "\x00\x00\x00"), api.ErrShort, 11},
		{"a wrong number, and no kind", laid("FORM", 5, "\x00bcd"), api.ErrSize, 4},
		{"a wrong number, and no chunk", laid("FORM", 5, "abcd", "xyz"), api.ErrSize, 4},
		{"no kind, and no chunk", formOf("\x00bcd", "xyz"), api.ErrForm, 8},
		{"no kind, and no letters", formOf("\x00bcd", "\x00bcd", 0), api.ErrForm, 8},
		{"few bytes, and no letter", formOf("abcd", "\x00bc"), api.ErrShort, 15},
		{"no letter, and data beyond", formOf("abcd", "\x00bcd", 4), api.ErrForm, 12},
		{"no letter, and 1 behind", formOf("abcd", "\x00bcd", 1, "x\x01"), api.ErrForm, 12},
		{"1 behind, and no letter in the next", formOf("abcd", "abcd", 1, "x\x01", "\x00bcd", 0), api.ErrPad, 21},
		{"no letter, and 1 behind in the next", formOf("abcd", "a\x00cd", 2, "xy", "abcd", 1, "x\x01"), api.ErrForm, 12},
		{"data beyond in the first, not in the second", formOf("abcd", "abcd", 9, "abcd", 0), api.ErrSize, 16},
		{"1 behind, and few bytes", formOf("abcd", "abcd", 1, "x\x01", "abc"), api.ErrPad, 21},
		{"1 behind, and data beyond", formOf("abcd", "abcd", 1, "x\x01", "abcd", 1), api.ErrPad, 21},
	} {
		expectFault(t, c.what, c.b, c.e, c.at)
	}
}

func TestParseManyChunks(t *testing.T) {
	chunk := laid("abcd", 1, "x\x00")
	full := bytes.Repeat(chunk, api.MaxChunks)
	expectTaken(t, formOf("Kind", full), "Kind", repeated(api.MaxChunks, api.Chunk{Id: "abcd", Data: []byte("x")})...)
	end := 12 + len(full)
	for _, more := range [][]byte{chunk, laid("abcd", 0), laid("a"), {0}, laid("\x00bcd", 0), laid("abcd", -1), laid("abcd", 1, "x\x01")} {
		expectFault(t, "one chunk more", formOf("Kind", full, more), api.ErrMany, end)
	}
	expectFault(t, "a fault ahead of one chunk more", formOf("Kind", "abcd", 1, "x\x01", full), api.ErrPad, 21)
	expectFault(t, "a wrong kind ahead of one chunk more", formOf("Kin\x00", full, chunk), api.ErrForm, 8)
	last := formOf("Kind", bytes.Repeat(chunk, api.MaxChunks-1), "abc")
	expectFault(t, "the last one that may stand", last, api.ErrShort, len(last))
}

func TestParseLongForms(t *testing.T) {
	data := make([]byte, api.MaxForm-20)
	expectTaken(t, formOf("Kind", "Data", len(data), data), "Kind", api.Chunk{Id: "Data", Data: data})
	odd := data[:len(data)-1]
	expectTaken(t, formOf("Kind", "Data", len(odd), odd, "\x00"), "Kind", api.Chunk{Id: "Data", Data: odd})
	more := make([]byte, api.MaxForm-18)
	expectFault(t, "two bytes more", formOf("Kind", "Data", len(more), more), api.ErrLong, 0)
	expectFault(t, "one byte more", formOf("Kind", "Data", len(data), data, "\x00"), api.ErrLong, 0)
	expectFault(t, "just MaxForm bytes that are none", make([]byte, api.MaxForm), api.ErrForm, 0)
}

func TestParseBytesByChance(t *testing.T) {
	r := rand.New(rand.NewSource(5))
	edges := []byte{0, 1, 2, 3, 4, 0x1f, 0x20, 0x7e, 0x7f, 0x80, 0xff}
	seen := map[api.Errno]int{}
	for range 200000 {
		b, _ := Build(someId(r), someChunks(r)...)
		for range r.Intn(3) {
			b[r.Intn(len(b))] = edges[r.Intn(len(edges))]
		}
		if r.Intn(4) == 0 {
			b = b[:r.Intn(len(b)+1)]
		}
		if len(b) >= 12 && r.Intn(2) == 0 {
			// The right number lets the faults behind it be seen.
			copy(b[4:], laid(len(b)-8))
		}
		wantE, wantAt := faultOf(b)
		seen[wantE]++
		if k, l, e, at := Parse(b); e != wantE || at != wantAt || e != api.OK && (k != "" || len(l) != 0) {
			t.Fatalf("Parse(%q) = %q, %v, %d at %d; not %d at %d", b, k, l, e, at, wantE, wantAt)
		}
	}
	for _, e := range []api.Errno{api.OK, api.ErrForm, api.ErrShort, api.ErrSize, api.ErrPad} {
		if seen[e] < 100 {
			t.Errorf("the error %d was seen %d times alone", e, seen[e])
		}
	}
}

// P5.4

func TestBuildFaults(t *testing.T) {
	good := api.Chunk{Id: "abcd", Data: []byte{1}}
	bad := api.Chunk{Id: "abc\x7f", Data: []byte{1}}
	huge := api.Chunk{Id: "abcd", Data: make([]byte, api.MaxForm)}
	hugeBad := api.Chunk{Id: "", Data: huge.Data}
	many := repeated(api.MaxChunks+1, good)
	manyLong := repeated(api.MaxChunks+1, huge)
	for _, c := range []struct {
		what string
		kind string
		l    []api.Chunk
		e    api.Errno
	}{
		{"no kind", "", nil, api.ErrArg},
		{"a short kind", "IFZ", nil, api.ErrArg},
		{"a long kind", "IFZSS", nil, api.ErrArg},
		{"a kind below", "IF\x1fS", []api.Chunk{good}, api.ErrArg},
		{"a kind above", "IFZ\x7f", []api.Chunk{good}, api.ErrArg},
		{"first Id", "IFZS", []api.Chunk{bad, good, good}, api.ErrArg},
		{"middle Id", "IFZS", []api.Chunk{good, {}, good}, api.ErrArg},
		{"last Id", "IFZS", []api.Chunk{good, good, {Id: "abcde"}}, api.ErrArg},
		{"many", "IFZS", many, api.ErrMany},
		{"long", "IFZS", []api.Chunk{huge}, api.ErrLong},
		{"kind, and many", "", many, api.ErrArg},
		{"kind, and long", "", []api.Chunk{huge}, api.ErrArg},
		{"Id, and many", "IFZS", append(slices.Clone(many), bad), api.ErrArg},
		{"Id, and long", "IFZS", []api.Chunk{hugeBad}, api.ErrArg},
		{"Id behind long", "IFZS", []api.Chunk{huge, bad}, api.ErrArg},
		{"many, and long", "IFZS", manyLong, api.ErrMany},
		{"all three", "IFZS", append(slices.Clone(manyLong), bad), api.ErrArg},
	} {
		if b, e := Build(c.kind, c.l...); len(b) != 0 || e != c.e {
			t.Errorf("%s: Build = %d bytes, %d; not %d", c.what, len(b), e, c.e)
		}
	}
}

func TestBuildJustSo(t *testing.T) {
	for _, c := range []struct {
		n  int
		ok bool
	}{{api.MaxForm - 21, true}, {api.MaxForm - 20, true}, {api.MaxForm - 19, false}, {api.MaxForm - 18, false}} {
		data := bytes.Repeat([]byte{9}, c.n)
		b, e := Build("Kind", api.Chunk{Id: "Data", Data: data})
		if c.ok && (e != api.OK || !bytes.Equal(b, formOf("Kind", "Data", c.n, data, make([]byte, c.n%2)))) {
			t.Errorf("data of %d bytes: %d bytes, error %d", c.n, len(b), e)
		}
		if !c.ok && (e != api.ErrLong || len(b) != 0) {
			t.Errorf("data of %d bytes: %d bytes, error %d, not ErrLong", c.n, len(b), e)
		}
	}
	// Each of the last two is odd: the bytes behind them count, too.
	left := api.Chunk{Id: "left", Data: make([]byte, api.MaxForm/2-15)}
	right := api.Chunk{Id: "rght", Data: make([]byte, api.MaxForm/2-15)}
	if b, e := Build("Kind", left, right); e != api.OK || len(b) != api.MaxForm {
		t.Errorf("two chunks of an odd length: %d bytes, error %d", len(b), e)
	}
	if b, e := Build("Kind", left, right, api.Chunk{Id: "none"}); e != api.ErrLong || len(b) != 0 {
		t.Errorf("a third chunk without data: %d bytes, error %d", len(b), e)
	}
	full := repeated(api.MaxChunks, api.Chunk{Id: "abcd", Data: []byte("x")})
	if b, e := Build("Kind", full...); e != api.OK || !bytes.Equal(b, formOf("Kind", bytes.Repeat(laid("abcd", 1, "x\x00"), api.MaxChunks))) {
		t.Errorf("just MaxChunks: %d bytes, error %d", len(b), e)
	}
}

// P5.5

func TestPlaces(t *testing.T) {
	if p := Places(); len(p) != 0 {
		t.Errorf("Places() = %v", p)
	}
	for _, c := range []struct {
		lengths []int
		want    []int
	}{
		{[]int{0}, []int{12}},
		{[]int{0, 0, 0}, []int{12, 20, 28}},
		{[]int{1, 2, 3, 4, 5}, []int{12, 22, 32, 44, 56}},
		{[]int{2, 1, 0, 255, 0}, []int{12, 22, 32, 40, 304}},
		{[]int{api.MaxForm, api.MaxForm + 1, 0}, []int{12, 20 + api.MaxForm, 30 + 2*api.MaxForm}},
	} {
		// Letters and limits are Build's matter alone.
		for _, id := range []string{"abcd", "", "too long"} {
			l := make([]api.Chunk, len(c.lengths))
			for i, n := range c.lengths {
				l[i] = api.Chunk{Id: id, Data: make([]byte, n)}
			}
			if p := Places(l...); !slices.Equal(p, c.want) {
				t.Errorf("Places of chunks %q of %v bytes = %v, not %v", id, c.lengths, p, c.want)
			}
		}
	}
	many := Places(repeated(3*api.MaxChunks, api.Chunk{Id: "abcd", Data: []byte("x")})...)
	if len(many) != 3*api.MaxChunks || many[3*api.MaxChunks-1] != 12+10*(3*api.MaxChunks-1) {
		t.Errorf("Places of 3 MaxChunks chunks: %d places, the last one %d", len(many), many[len(many)-1])
	}
}

func TestFind(t *testing.T) {
	l := []api.Chunk{{Id: "abcd", Data: []byte("efgh")}, {Id: "ABCD"}, {Id: "abcd"}, {Id: "efgh"}, {Id: "ABCD", Data: []byte{1}}, {Id: "x"}}
	for _, c := range []struct {
		id string
		l  []api.Chunk
		i  int
		ok bool
	}{
		{"abcd", l, 0, true}, {"ABCD", l, 1, true}, {"efgh", l, 3, true}, {"x", l, 5, true},
		{"abcd", l[1:], 1, true}, {"ABCD", l[2:], 2, true},
		{"abc", l, 0, false}, {"abcde", l, 0, false}, {"Abcd", l, 0, false}, {"", l, 0, false}, {"efgh", l[:3], 0, false},
		{"abcd", nil, 0, false}, {"", nil, 0, false},
		{"", []api.Chunk{{Id: "abcd"}, {}}, 1, true},
	} {
		if i, ok := Find(c.id, c.l...); i != c.i || ok != c.ok {
			t.Errorf("Find(%q) = %d, %t; not %d, %t", c.id, i, ok, c.i, c.ok)
		}
	}
}

// Rules that hold everywhere: Memory

func TestNothingIsShared(t *testing.T) {
	room := append(make([]byte, 0, 64), formOf("Kind", "odd ", 3, "abc\x00", "even", 2, "xy")...)
	whole := bytes.Clone(room[:cap(room)])
	_, l, _, _ := Parse(room)
	_, again, _, _ := Parse(room)
	fill(l[0].Data, 1)
	if string(l[1].Data) != "xy" || string(again[0].Data) != "abc" || !bytes.Equal(room[:cap(room)], whole) {
		t.Error("data that Parse answers are shared")
	}
	data := append(make([]byte, 0, 9), "abc"...)
	chunks := append(make([]api.Chunk, 0, 4), api.Chunk{Id: "odd ", Data: data}, api.Chunk{Id: "odd ", Data: data})
	b, _ := Build("Kind", chunks...)
	other, _ := Build("Kind", chunks...)
	laidOther := bytes.Clone(other)
	fill(b, 2)
	if !bytes.Equal(data[:9], []byte("abc\x00\x00\x00\x00\x00\x00")) || !bytes.Equal(other, laidOther) {
		t.Error("bytes that Build answers are shared")
	}
	if p, q := Places(chunks...), Places(chunks...); &p[0] == &q[0] {
		t.Error("places are shared")
	}
	if n, ok := Find("none", chunks...); n != 0 || ok || !sameChunks(chunks, repeated(2, api.Chunk{Id: "odd ", Data: []byte("abc")})) || chunks[:4][2].Id != "" {
		t.Error("the chunks that were handed in have changed")
	}
}

// fill: all bytes of b, its spare room included, become c.
func fill(b []byte, c byte) {
	b = b[:cap(b)]
	for i := range b {
		b[i] = c
	}
}
