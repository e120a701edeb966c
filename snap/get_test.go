package snap

import (
	"bytes"
	"math/rand"
	"slices"
	"testing"

	"grotto/api"
	"grotto/memory"
)

// headChunk: the right IFhd of m.
func headChunk(m *memory.Memory) []byte {
	return chunk("IFhd", m.Game()[:128])
}

// plainRam: so many bytes of Ram, none of them 0.
func plainRam(n int) []byte {
	return coloured(0x6b, n)
}

// expectGet: Get answers that, twice; neither memory nor b is changed, and nothing of what it tells is b's or another answer's.
func expectGet(t *testing.T, what string, m *memory.Memory, b []byte, want api.State, e api.Errno) {
	t.Helper()
	given := roomy(b)
	kept, keptM := bytes.Clone(given[:cap(given)]), m.Copy()
	first, f := Get(m, given)
	if f != e {
		t.Fatalf("%s: Get = %d, not %d", what, f, e)
	}
	if e != api.OK {
		noState(t, what, first)
	} else {
		sameState(t, what, first, want)
		second, _ := Get(m, given)
		expectApart(t, what, first, want)
		sameState(t, what+", again", second, want)
	}
	sameBytes(t, what+": what was handed in", given[:cap(given)], kept)
	toldAlike(t, what, m, keptM)
}

// expectApart: Ram and Stack, spare room too, lie apart.
func expectApart(t *testing.T, what string, st, want api.State) {
	t.Helper()
	spread(st.Ram, 0xee)
	sameBytes(t, what+": Stack, when Ram is changed", st.Stack, want.Stack)
	spread(st.Stack, 0xdd)
	sameBytes(t, what+": Ram, when Stack is changed", st.Ram, coloured(0xee, len(want.Ram)))
	spoil(st)
}

// permuted: all orders of l.
func permuted(l [][]byte) (orders [][][]byte) {
	if len(l) == 0 {
		return [][][]byte{nil}
	}
	for i := range l {
		for _, rest := range permuted(slices.Concat(l[:i], l[i+1:])) {
			orders = append(orders, append([][]byte{l[i]}, rest...))
		}
	}
	return orders
}

// P17.5

func TestGet(t *testing.T) {
	m := small(t)
	game := m.Game()[512:]
	ram := laid(game, make([]byte, 256))
	other := bytes.Clone(ram)
	other[9] ^= 0x11
	other[511] = 7
	head, pile := headChunk(m), chunk("Stks", "pile")
	for _, c := range []struct {
		what  string
		chunk []byte
		ram   []byte
	}{
		{"CMem of nothing", chunk("CMem", 1024), ram},
		{"CMem of runs alone", chunk("CMem", 1024, []byte{0, 255, 0, 255}), ram},
		{"CMem of two bytes", chunk("CMem", 1024, []byte{0, 8, 0x11, 0, 255, 0, 244, 7}), other},
		{"CMem of one that has grown", chunk("CMem", 1280, []byte{0, 8, 0x11, 0, 255, 0, 244, 7}), laid(other, make([]byte, 256))},
		{"CMem of the greatest", chunk("CMem", 1<<20), laid(game, make([]byte, 1<<20-768))},
		{"UMem", chunk("UMem", 1024, other), other},
		{"UMem of bytes 0", chunk("UMem", 1024, make([]byte, 512)), make([]byte, 512)},
		{"UMem of one that has grown", chunk("UMem", 1536, plainRam(1024)), plainRam(1024)},
		{"UMem of the greatest", chunk("UMem", 1<<20, plainRam(1<<20-512)), plainRam(1<<20 - 512)},
	} {
		want := api.State{Ram: c.ram, Stack: []byte("pile")}
		expectGet(t, c.what, m, formOf("IFZS", head, c.chunk, pile), want, api.OK)
	}
}

// TestGetAsksTheGame: what memory has become has no part in Get.
func TestGetAsksTheGame(t *testing.T) {
	as := small(t)
	b := formOf("IFZS", headChunk(as), chunk("CMem", 1024, []byte{1, 2, 3}), chunk("Stks", "pile"))
	ram := laid(as.Game()[512:], make([]byte, 256))
	for i := range 3 {
		ram[i] ^= byte(i + 1)
	}
	for what, m := range map[string]*memory.Memory{"as new": as, "grown": grown(t), "with a heap": withHeap(t), "with a heap no more": heapGone(t)} {
		m.Protect(0, top)
		expectGet(t, what, m, b, api.State{Ram: ram, Stack: []byte("pile")}, api.OK)
	}
}

func TestGetOrders(t *testing.T) {
	m := small(t)
	l := []api.Block{block(1024, 5), block(2000, 7)}
	for _, mem := range [][]byte{chunk("CMem", 1024, squeezed(m.Game()[512:], plainRam(512))), chunk("UMem", 1024, plainRam(512))} {
		for _, order := range permuted([][]byte{headChunk(m), mem, chunk("Stks", "pile"), mall(1024, l...)}) {
			expectGet(t, "an order", m, formOf("IFZS", order...), api.State{Ram: plainRam(512), Heap: 1024, Blocks: l, Stack: []byte("pile")}, api.OK)
		}
	}
}

func TestGetTheFirstOne(t *testing.T) {
	m := small(t)
	right := [][]byte{headChunk(m), chunk("CMem", 1024, squeezed(m.Game()[512:], plainRam(512))), chunk("Stks", "pile"), mall(1024, block(1024, 5))}
	wrong := [][]byte{chunk("IFhd", "x"), chunk("CMem", "x"), chunk("Stks", "x"), chunk("MAll", "x")}
	errors := []api.Errno{api.ErrMagic, api.ErrShort, api.OK, api.ErrSize}
	want := api.State{Ram: plainRam(512), Heap: 1024, Blocks: blocks(1, 1024, 5), Stack: []byte("pile")}
	expectGet(t, "all of them twice", m, formOf("IFZS", slices.Concat(right, wrong, wrong)...), want, api.OK)
	for i := range right {
		for _, order := range permuted(right) {
			expectGet(t, "one twice, the second wrong", m, formOf("IFZS", append(order, wrong[i])...), want, api.OK)
		}
		first := formOf("IFZS", append([][]byte{wrong[i]}, right...)...)
		if errors[i] != api.OK {
			expectGet(t, "one twice, the first wrong", m, first, api.State{}, errors[i])
		}
	}
	want.Stack = []byte("x")
	expectGet(t, "two of Stks", m, formOf("IFZS", append([][]byte{wrong[2]}, right...)...), want, api.OK)
}

func TestGetBothMemories(t *testing.T) {
	m := small(t)
	head, pile := headChunk(m), chunk("Stks", "pile")
	c, u := chunk("CMem", 1024, squeezed(m.Game()[512:], coloured(0x11, 512))), chunk("UMem", 1280, coloured(0x22, 768))
	squeezedOne, plainOne := api.State{Ram: coloured(0x11, 512), Stack: []byte("pile")}, api.State{Ram: coloured(0x22, 768), Stack: []byte("pile")}
	for _, order := range permuted([][]byte{head, c, u, pile}) {
		want := squeezedOne
		if bytes.Index(slices.Concat(order...), []byte("UMem")) < bytes.Index(slices.Concat(order...), []byte("CMem")) {
			want = plainOne
		}
		expectGet(t, "both", m, formOf("IFZS", order...), want, api.OK)
	}
	expectGet(t, "a wrong UMem behind", m, formOf("IFZS", head, c, chunk("UMem"), pile), squeezedOne, api.OK)
	expectGet(t, "a wrong CMem behind", m, formOf("IFZS", head, u, chunk("CMem", "x"), pile), plainOne, api.OK)
	expectGet(t, "a wrong UMem ahead", m, formOf("IFZS", head, chunk("UMem", 1024), c, pile), api.State{}, api.ErrSize)
	expectGet(t, "a wrong CMem ahead", m, formOf("IFZS", head, chunk("CMem", 1024, []byte{0}), u, pile), api.State{}, api.ErrShort)
}

func TestGetOtherChunks(t *testing.T) {
	m := small(t)
	want := api.State{Ram: plainRam(512), Heap: 1024, Blocks: blocks(1, 1024, 5), Stack: []byte("pile")}
	right := [][]byte{headChunk(m), chunk("CMem", 1024, squeezed(m.Game()[512:], plainRam(512))), chunk("Stks", "pile"), mall(1024, want.Blocks...)}
	for _, other := range [][]byte{chunk("ANNO", "a text"), chunk("IntD"), chunk("    ", "x"), chunk("ifhd", "x"), chunk("cmem", "x"), chunk("UMEM", "x"), chunk("STKS", "x"), chunk("Mall", "x"), chunk("FORM", 4, "IFZS")} {
		for at := range len(right) + 1 {
			expectGet(t, "another kind", m, formOf("IFZS", slices.Insert(slices.Clone(right), at, other)...), want, api.OK)
			expectGet(t, "another kind, twice", m, formOf("IFZS", slices.Insert(slices.Clone(right), at, other, other)...), want, api.OK)
		}
	}
	expectGet(t, "so many", m, formOf("IFZS", slices.Concat(slices.Repeat([][]byte{chunk("ANNO")}, 1020), right)...), want, api.OK)
	expectGet(t, "one too many", m, formOf("IFZS", slices.Concat(slices.Repeat([][]byte{chunk("ANNO")}, 1021), right)...), api.State{}, api.ErrMany)
}

func TestGetHeaps(t *testing.T) {
	m := small(t)
	rest := laid(headChunk(m), chunk("UMem", 1024, plainRam(512)), chunk("Stks"))
	for _, c := range []struct {
		what  string
		start uint32
		l     []api.Block
	}{
		{"none, from 0 on", 0, nil},
		{"none", 1024, nil},
		{"none, from the greatest word on", top, nil},
		{"one", 1024, blocks(1, 1024, 7)},
		{"one, from 0 on", 0, blocks(1, 1024, 7)},
		{"one of none", 1024, blocks(1, 1024, 0)},
		{"one of the greatest words", top, blocks(1, top, top)},
		{"two that fall", 1024, []api.Block{block(1040, 7), block(1024, 7)}},
		{"two in one place", 1024, []api.Block{block(1024, 7), block(1024, 7)}},
		{"as many as may be", 1024, blocks(api.MaxBlocks, 1024, 3)},
		{"more than may be", 1024, blocks(api.MaxBlocks+1, 1024, 3)},
		{"very many", 1024, blocks(100000, 1024, 3)},
	} {
		b := formOf("IFZS", rest, mall(c.start, c.l...))
		expectGet(t, c.what, m, b, api.State{Ram: plainRam(512), Heap: c.start, Blocks: c.l}, api.OK)
	}
}

func TestGetWrongHeaps(t *testing.T) {
	m := small(t)
	rest := laid(headChunk(m), chunk("UMem", 1024, plainRam(512)), chunk("Stks"))
	pairs := laid(1024, 7, 1040, 7)
	for _, c := range []struct {
		what string
		data []byte
	}{
		{"nothing", nil},
		{"a byte", laid("x")},
		{"a number", laid(1024)},
		{"a byte too short for none", laid(1024, 0)[:7]},
		{"a byte too long for none", laid(1024, 0, "x")},
		{"a pair too many for none", laid(1024, 0, 1024, 7)},
		{"a byte too short for one", laid(1024, 1, 1024, 7)[:15]},
		{"a byte too long for one", laid(1024, 1, 1024, 7, "x")},
		{"a number too short for one", laid(1024, 1, 1024)},
		{"no pair for one", laid(1024, 1)},
		{"a byte too short for two", laid(1024, 2, pairs)[:23]},
		{"a byte too long for two", laid(1024, 2, pairs, "x")},
		{"a pair too short for two", laid(1024, 2, pairs[:8])},
		{"a pair too many for two", laid(1024, 2, pairs, 2000, 1)},
		// Pairs of eight bytes: these counts are as few in 32 bits, times 8, as there are.
		{"the greatest word for none", laid(1024, top)},
		{"2^29 for none", laid(1024, 1<<29)},
		{"2^31 for none", laid(1024, 1<<31)},
		{"2^29 and 1 for one", laid(1024, 1<<29+1, 1024, 7)},
		{"2^31 and 2 for two", laid(1024, 1<<31+2, pairs)},
		{"7 * 2^29 and 2 for two", laid(1024, 7<<29+2, pairs)},
	} {
		expectGet(t, c.what, m, formOf("IFZS", rest, chunk("MAll", c.data)), api.State{}, api.ErrSize)
	}
}

func TestGetWrongMemories(t *testing.T) {
	m := small(t)
	head, pile := headChunk(m), chunk("Stks", "pile")
	for _, c := range []struct {
		what string
		data []byte
		c, u api.Errno
	}{
		{"nothing", nil, api.ErrShort, api.ErrShort},
		{"a byte", laid("x"), api.ErrShort, api.ErrShort},
		{"three bytes", []byte{0, 4, 0}, api.ErrShort, api.ErrShort},
		{"no multiple of Page", laid(1025, make([]byte, 513)), api.ErrMap, api.ErrMap},
		{"no multiple of Page by much", laid(1152, make([]byte, 640)), api.ErrMap, api.ErrMap},
		{"0", laid(0), api.ErrMap, api.ErrMap},
		{"below RamStart", laid(256), api.ErrMap, api.ErrMap},
		{"RamStart", laid(512), api.ErrMap, api.ErrMap},
		{"ExtStart", laid(768, make([]byte, 256)), api.ErrMap, api.ErrMap},
		{"just below EndMem", laid(1023, make([]byte, 511)), api.ErrMap, api.ErrMap},
		{"a page above MaxMem", laid(1<<20+256, plainRam(1<<20-256)), api.ErrMap, api.ErrMap},
		{"2^31", laid(1 << 31), api.ErrMap, api.ErrMap},
		{"the last page's", laid(top - 255), api.ErrMap, api.ErrMap},
		{"the greatest word", laid(top), api.ErrMap, api.ErrMap},
		{"a wrong number, and a 0 alone", laid(1025, []byte{0}), api.ErrMap, api.ErrMap},
		{"a 0 alone", laid(1024, []byte{0}), api.ErrShort, api.ErrSize},
		{"a 0 behind some", laid(1024, []byte{1, 2, 0, 3, 0}), api.ErrShort, api.ErrSize},
		{"a byte too many", laid(1024, plainRam(513)), api.ErrLong, api.ErrSize},
		{"a run a byte too long", laid(1024, []byte{0, 255, 0, 255, 0, 0}), api.ErrLong, api.ErrSize},
		{"a byte too many, and a 0 alone", laid(1024, plainRam(513), []byte{0}), api.ErrLong, api.ErrSize},
		{"a byte too few", laid(1024, plainRam(511)), api.OK, api.ErrSize},
		{"none behind the number", laid(1024), api.OK, api.ErrSize},
		{"as many as it was", laid(1024, plainRam(256)), api.OK, api.ErrSize},
		{"as many as the number", laid(1024, plainRam(1024)), api.ErrLong, api.ErrSize},
		{"a page grown, a byte too few", laid(1280, plainRam(767)), api.OK, api.ErrSize},
		{"a page grown, a byte too many", laid(1280, plainRam(769)), api.ErrLong, api.ErrSize},
		{"MaxMem, a byte too many", laid(1<<20, plainRam(1<<20-511)), api.ErrLong, api.ErrSize},
		{"MaxMem, a byte too few", laid(1<<20, plainRam(1<<20-513)), api.OK, api.ErrSize},
	} {
		for id, e := range map[string]api.Errno{"CMem": c.c, "UMem": c.u} {
			b := formOf("IFZS", head, chunk(id, c.data), pile)
			want, f := gotten(m.Game(), m.Header(), b)
			same(t, c.what+" as a "+id+", in the words", f, e)
			expectGet(t, c.what+" as a "+id, m, b, want, e)
		}
	}
}

func TestGetWrongHeads(t *testing.T) {
	m := small(t)
	rest := laid(chunk("CMem", 1024), chunk("Stks"))
	game := m.Game()
	for what, data := range map[string][]byte{
		"nothing":              nil,
		"a byte":               game[:1],
		"a byte too short":     game[:127],
		"a byte too long":      game[:129],
		"a 0 too long":         laid(game[:128], []byte{0}),
		"the whole game":       game,
		"the header alone":     game[:36],
		"from the second byte": game[1:129],
		"another game":         made(t, 512, 768, 1280).Game()[:128],
		"bytes 0":              make([]byte, 128),
	} {
		expectGet(t, what, m, formOf("IFZS", chunk("IFhd", data), rest), api.State{}, api.ErrMagic)
	}
	for at := range 128 {
		for bit := range 8 {
			data := bytes.Clone(game[:128])
			data[at] ^= 1 << bit
			expectGet(t, "one bit turned", m, formOf("IFZS", chunk("IFhd", data), rest), api.State{}, api.ErrMagic)
		}
	}
	data := bytes.Clone(game)
	data[128] ^= 1
	expectGet(t, "what lies behind", m, formOf("IFZS", chunk("IFhd", data[:128]), rest), api.State{Ram: laid(game[512:], make([]byte, 256))}, api.OK)
}

func TestGetNoForm(t *testing.T) {
	m := small(t)
	right := putOf(withHeap(t), called(t, 400, 3))
	odd := formOf("IFZS", headChunk(m), chunk("CMem", 1024, "x"), chunk("Stks"))
	pad := bytes.LastIndex(odd, []byte("Stks")) - 1
	changed := func(b []byte, at int, c byte) []byte {
		b = bytes.Clone(b)
		b[at] = c
		return b
	}
	for _, c := range []struct {
		what string
		b    []byte
		e    api.Errno
	}{
		{"none", nil, api.ErrShort},
		{"a letter", []byte("F"), api.ErrShort},
		{"another letter", []byte("G"), api.ErrForm},
		{"the letters alone", []byte("FORM"), api.ErrShort},
		{"a chunk alone", headChunk(m), api.ErrForm},
		{"the game", m.Game(), api.ErrForm},
		{"a byte too short", right[:len(right)-1], api.ErrSize},
		{"a byte too long", laid(right, []byte{0}), api.ErrSize},
		{"a kind that is none", changed(right, 8, 0x7f), api.ErrForm},
		{"a chunk's letters that are none", changed(right, 12, 0x1f), api.ErrForm},
		{"a chunk that is too long", changed(right, 17, 1), api.ErrSize},
		{"a byte behind that is not 0", changed(odd, pad, 1), api.ErrPad},
		{"too many bytes", laid("FORM", api.MaxForm-7, "IFZS", make([]byte, api.MaxForm-11)), api.ErrLong},
	} {
		expectGet(t, c.what, m, c.b, api.State{}, c.e)
	}
}

func TestGetKinds(t *testing.T) {
	m := small(t)
	rest := laid(headChunk(m), chunk("CMem", 1024), chunk("Stks"))
	for _, kind := range []string{"IFRS", "ifzs", "IFZs", "IFZ ", " IFZ", "    ", "~~~~", "FORM", "SZFI"} {
		expectGet(t, kind, m, formOf(kind, rest), api.State{}, api.ErrKind)
		expectGet(t, kind+", of nothing", m, formOf(kind), api.State{}, api.ErrKind)
	}
}

func TestGetLacking(t *testing.T) {
	m := small(t)
	l := [][]byte{headChunk(m), chunk("CMem", 1024), chunk("Stks"), mall(1024)}
	for set := range 16 {
		var some [][]byte
		for i, c := range l {
			if set>>i&1 == 1 {
				some = append(some, c)
			}
		}
		want, e := api.State{}, api.ErrNone
		if set&7 == 7 {
			want, e = api.State{Ram: laid(m.Game()[512:], make([]byte, 256)), Heap: 1024 * uint32(set>>3)}, api.OK
		}
		expectGet(t, "some of them", m, formOf("IFZS", some...), want, e)
	}
}

func TestGetOfNothing(t *testing.T) {
	right := putOf(withHeap(t), called(t, 400, 3))
	for what, b := range map[string][]byte{"no bytes": nil, "no form": laid("x"), "another kind": formOf("IFRS"), "nothing in it": formOf("IFZS"), "a right one": right} {
		st, e := Get(nil, b)
		same(t, what+": Get's error", e, api.ErrNil)
		noState(t, what, st)
	}
}

// fault is a chunk as it may be in a form, with what is wrong of it; how early the chapter names that, from 0 on.
type fault struct {
	b    []byte
	rank int
	e    api.Errno
}

// The chapter's order of errors.
const (
	rankForm = iota
	rankKind
	rankNone
	rankMagic
	rankMemory
	rankHeap
	rankRight
)

// TestGetTheFirstError: of several errors the first that the chapter names, in whichever order the chunks come.
func TestGetTheFirstError(t *testing.T) {
	m := small(t)
	right := fault{nil, rankRight, api.OK}
	lacking := fault{nil, rankNone, api.ErrNone}
	as := func(b []byte, f fault) fault { return fault{b, f.rank, f.e} }
	heads := []fault{as(headChunk(m), right), lacking, {chunk("IFhd", "x"), rankMagic, api.ErrMagic}, {chunk("IFhd", m.Game()[:129]), rankMagic, api.ErrMagic}}
	memories := []fault{
		as(chunk("CMem", 1024), right),
		as(chunk("UMem", 1024, plainRam(512)), right),
		lacking,
		{chunk("CMem", "xxx"), rankMemory, api.ErrShort},
		{chunk("UMem"), rankMemory, api.ErrShort},
		{chunk("CMem", 768), rankMemory, api.ErrMap},
		{chunk("UMem", 1000, "x"), rankMemory, api.ErrMap},
		{chunk("CMem", 1024, []byte{0}), rankMemory, api.ErrShort},
		{chunk("CMem", 1024, plainRam(513)), rankMemory, api.ErrLong},
		{chunk("UMem", 1024, plainRam(513)), rankMemory, api.ErrSize},
	}
	piles := []fault{as(chunk("Stks"), right), lacking}
	heaps := []fault{right, as(mall(1024, block(1024, 7)), right), {chunk("MAll", "x"), rankHeap, api.ErrSize}}
	for _, head := range heads {
		for _, mem := range memories {
			for _, pile := range piles {
				for _, heap := range heaps {
					expectFirst(t, m, head, mem, pile, heap)
				}
			}
		}
	}
}

// expectFirst: a form of these chunks, of every kind and cut short or not, has the error of the least rank.
func expectFirst(t *testing.T, m *memory.Memory, l ...fault) {
	t.Helper()
	first := slices.MinFunc(l, func(a, b fault) int { return a.rank - b.rank })
	var chunks [][]byte
	for _, c := range l {
		if c.b != nil {
			chunks = append(chunks, c.b)
		}
	}
	for _, order := range [][][]byte{chunks, reversed(chunks)} {
		b := formOf("IFZS", order...)
		want, e := gotten(m.Game(), m.Header(), b)
		same(t, "the first error, in the words", e, first.e)
		expectGet(t, "the first error", m, b, want, first.e)
		b = formOf("IFRS", order...)
		expectGet(t, "the first error, of another kind", m, b, api.State{}, api.ErrKind)
		expectGet(t, "the first error, of another kind and too long", m, laid(b, "x"), api.State{}, api.ErrSize)
	}
}

// reversed: the last one first.
func reversed(l [][]byte) [][]byte {
	l = slices.Clone(l)
	slices.Reverse(l)
	return l
}

// TestGetByChance: forms that were put, of which some bytes are others.
func TestGetByChance(t *testing.T) {
	r := rand.New(rand.NewSource(1707))
	told := map[api.Errno]int{}
	for range 60 {
		m, s := someMemory(t, r), someStack(t, r)
		for range r.Intn(40) {
			happen(r, m, s)
		}
		right := putOf(m, s)
		for range 40 {
			b := spoilt(r, m, right)
			want, e := gotten(m.Game(), m.Header(), b)
			told[e]++
			expectGet(t, "by chance", m, b, want, e)
		}
	}
	for _, e := range []api.Errno{api.OK, api.ErrForm, api.ErrSize, api.ErrKind, api.ErrNone, api.ErrMagic, api.ErrMap, api.ErrShort, api.ErrLong} {
		if told[e] < 5 {
			t.Errorf("told %d only %d times: %v", e, told[e], told)
		}
	}
}

// spoilt: b, with something by chance that is not as it was.
func spoilt(r *rand.Rand, m *memory.Memory, b []byte) []byte {
	b = bytes.Clone(b)
	at := []int{bytes.Index(b, []byte("IFhd")), bytes.Index(b, []byte("CMem")), bytes.Index(b, []byte("Stks"))}
	switch r.Intn(7) {
	case 0:
		b[r.Intn(len(b))] ^= 1 << r.Intn(8)
	case 1:
		copy(b[8:], someOf(r, "IFRS", "IFZS", "FORM"))
	case 2:
		b[someOf(r, at...)+r.Intn(8)] ^= 1 << r.Intn(8)
	case 3:
		b[at[1]+8+r.Intn(4)] += byte(1 << r.Intn(8))
	case 4:
		copy(b[at[1]:], "UMem")
	case 5:
		told := someRow(r, 6)
		size := int(m.Header().EndMem) + 256*r.Intn(2)
		return formOf("IFZS", headChunk(m), chunk("CMem", size, told), chunk("Stks"))
	default:
		b = append(b, someOf(r, mall(1024), chunk("MAll", 1024, 1), chunk("ANNO", "x"))...)
		copy(b[4:], laid(len(b)-8))
	}
	return b
}
