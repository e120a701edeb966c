package snap

import (
	"math/rand"
	"testing"

	"grotto/api"
	"grotto/memory"
	"grotto/stack"
)

// putOf: what P17.4's words say that Put tells.
func putOf(m *memory.Memory, s *stack.Stack) []byte {
	ram := m.Header().RamStart
	chunks := [][]byte{
		chunk("IFhd", m.Bytes()[:128]),
		chunk("CMem", m.Size(), squeezed(m.Game()[ram:], m.Bytes()[ram:])),
		chunk("Stks", s.Bytes()),
	}
	if start, l := m.Heap(); len(l) > 0 {
		chunks = append(chunks, mall(start, l...))
	}
	return formOf("IFZS", chunks...)
}

// mall: the chunk of a heap.
func mall(start uint32, l ...api.Block) []byte {
	data := laid(start, len(l))
	for _, b := range l {
		data = append(data, laid(b.Addr, b.Len)...)
	}
	return chunk("MAll", data)
}

// expectPut: Put tells that, twice, and nothing of what it tells is memory's, the stack's, or another answer's.
func expectPut(t *testing.T, what string, m *memory.Memory, s *stack.Stack, want []byte) {
	t.Helper()
	keptM, keptS := m.Copy(), s.Copy()
	first, e := Put(m, s)
	same(t, what+": Put's error", e, api.OK)
	second, e := Put(m, s)
	same(t, what+": Put's error, again", e, api.OK)
	sameBytes(t, what+": Put", first, want)
	spread(first, 0xee)
	sameBytes(t, what+": Put, again", second, want)
	sameMemory(t, what, m, keptM)
	sameStack(t, what, s, keptS)
}

// P17.4

func TestPutAsNew(t *testing.T) {
	m := small(t)
	want := laid("FORM", 4+(8+128)+(8+4)+8, "IFZS",
		"IFhd", 128, m.Game()[:128],
		"CMem", 4, []byte{0, 0, 4, 0},
		"Stks", 0)
	expectPut(t, "as new, with an empty stack", m, empty(t, 100), want)
}

func TestPutBytes(t *testing.T) {
	m, s := small(t), empty(t, 100)
	was, _ := m.Read(520, 1)
	good(t, "Write", m.Write(520, 1, was^0x41))
	same(t, "Malloc", m.Malloc(5), 1024)
	same(t, "Malloc", m.Malloc(300), 1029)
	good(t, "Write", m.Write(1281, 1, 9))
	good(t, "Enter", s.Enter([]byte{4, 1, 0, 0}))
	good(t, "Args", s.Args(0x01020304))
	good(t, "Push", s.Push(0x0a0b0c0d))
	want := laid("FORM", 4+(8+128)+(8+4+2+1+6+1)+(8+20)+(8+24), "IFZS",
		"IFhd", 128, m.Game()[:128],
		"CMem", 4+2+1+6+1, []byte{0, 0, 6, 0}, []byte{0, 7, 0x41}, []byte{0, 255, 0, 255, 0, 247}, []byte{9},
		"Stks", 20, 16, 12, []byte{4, 1, 0, 0}, 0x01020304, 0x0a0b0c0d,
		"MAll", 24, 1024, 2, 1024, 5, 1029, 300)
	expectPut(t, "with a heap and a frame", m, s, want)
	good(t, "Free", m.Free(1024))
	want = laid(want[:len(want)-24-4], 16, 1024, 1, 1029, 300)
	want[7] -= 8
	expectPut(t, "with one block", m, s, want)
	good(t, "Free", m.Free(1029))
	want = laid("FORM", 4+(8+128)+(8+4+2+1+1)+(8+20), "IFZS",
		"IFhd", 128, m.Game()[:128],
		"CMem", 4+2+1, []byte{0, 0, 4, 0}, []byte{0, 7, 0x41}, []byte{0},
		"Stks", 20, 16, 12, []byte{4, 1, 0, 0}, 0x01020304, 0x0a0b0c0d)
	expectPut(t, "with a heap no more", m, s, want)
}

func TestPut(t *testing.T) {
	for what, m := range map[string]*memory.Memory{
		"as new":              small(t),
		"grown":               grown(t),
		"with a heap":         withHeap(t),
		"with a heap no more": heapGone(t),
		"without Ram":         made(t, 256, 256, 256),
		"bytes 0 alone":       made(t, 256, 256, 2048),
	} {
		for _, frames := range []int{0, 1, 2, 20} {
			s := called(t, 4096, frames)
			expectPut(t, what, m, s, putOf(m, s))
		}
	}
}

func TestPutOfTheGreatest(t *testing.T) {
	m := made(t, 256, 1024, 1<<20)
	for i := range uint32(api.MaxBlocks) {
		if i == 0 {
			same(t, "Resize", m.Resize(1<<20), true)
			ram := m.Bytes()[256:]
			good(t, "Load", m.Load(ram, 1<<19, block(1<<19, 3)))
			continue
		}
		same(t, "Malloc", m.Malloc(2), 1<<19+3+2*(i-1))
	}
	colour(t, m, 0xff)
	s := called(t, api.MaxStack, 1000)
	for s.Top() < api.MaxStack-16 {
		good(t, "Push", s.Push(s.Top()))
	}
	good(t, "Stub", s.Stub(1, 2, 3))
	expectPut(t, "the greatest", m, s, putOf(m, s))
	expectRestored(t, "the greatest", m, s, putOf(m, s))
}

func TestPutOfNothing(t *testing.T) {
	m, s := small(t), called(t, 400, 2)
	for _, c := range []struct {
		what string
		m    *memory.Memory
		s    *stack.Stack
	}{{"no memory", nil, s}, {"no stack", m, nil}, {"neither", nil, nil}} {
		b, e := Put(c.m, c.s)
		same(t, c.what+": Put's error", e, api.ErrNil)
		same(t, c.what+": bytes", len(b), 0)
	}
}

func TestPutByChance(t *testing.T) {
	r := rand.New(rand.NewSource(1706))
	for range 200 {
		m, s := someMemory(t, r), someStack(t, r)
		for range r.Intn(40) {
			happen(r, m, s)
		}
		expectPut(t, "by chance", m, s, putOf(m, s))
	}
}

// TestHeapAheadOfTheGame: a memory whose heap was loaded ahead of EndMem ends there when it is no more; what is left of it is told.
func TestHeapAheadOfTheGame(t *testing.T) {
	for start, left := range map[uint32]int{256: 0, 512: 0, 768: 256, 1024: 512} {
		m, s := small(t), called(t, 400, 2)
		ram := numbered(1024)
		good(t, "Load", m.Load(ram, start, block(start, 9)))
		expectPut(t, "with its heap", m, s, putOf(m, s))
		expectRestored(t, "with its heap", m, s, putOf(m, s))
		good(t, "Free", m.Free(start))
		same(t, "Size", m.Size(), start)
		st, e := Take(m, s)
		same(t, "Take's error", e, api.OK)
		sameState(t, "Take", st, api.State{Ram: ram[:left], Stack: s.Bytes()})
		b, e := Put(m, s)
		same(t, "Put's error", e, api.OK)
		sameBytes(t, "Put", b, formOf("IFZS", chunk("IFhd", m.Game()[:128]), chunk("CMem", start, squeezed(m.Game()[512:], ram[:left])), chunk("Stks", s.Bytes())))
		_, e = Get(m, b)
		same(t, "Get's error", e == api.ErrMap, start < 1024)
	}
}
