package snap

import (
	"bytes"
	"encoding/binary"
	"math/rand"
	"slices"
	"testing"

	"grotto/api"
	"grotto/header"
	"grotto/iff"
	"grotto/memory"
	"grotto/stack"
)

// top is the greatest word.
const top = 1<<32 - 1

// rowOf: the row that now and was are together, by the words of P17.1.
func rowOf(was, now []byte) (row []byte) {
	for i, c := range now {
		if i < len(was) {
			row = append(row, c^was[i])
		} else {
			row = append(row, c)
		}
	}
	return row
}

// squeezed: by the words of P17.1 alone, from the left, looking ahead at each byte 0.
func squeezed(was, now []byte) (b []byte) {
	row := bytes.TrimRight(rowOf(was, now), "\x00")
	for len(row) > 0 {
		if row[0] != 0 {
			b, row = append(b, row[0]), row[1:]
			continue
		}
		n := 0
		for n < 256 && row[n] == 0 {
			n++
		}
		b, row = append(b, 0, byte(n-1)), row[n:]
	}
	return b
}

// stretched: by the words of P17.2 alone: the whole row is laid out, then cut or filled.
func stretched(was []byte, size int, b []byte) ([]byte, api.Errno) {
	if size < 0 || size > 1048576 {
		return nil, api.ErrArg
	}
	var row []byte
	for i := 0; i < len(b); i++ {
		row = append(row, b[i])
		if b[i] == 0 {
			i++
			if i == len(b) {
				return nil, api.ErrShort
			}
			row = append(row, make([]byte, b[i])...)
		}
		if len(row) > size {
			return nil, api.ErrLong
		}
	}
	return rowOf(was, append(row, make([]byte, size-len(row))...)), api.OK
}

// gotten: by the words of P17.5 alone, of a game, its header and a form.
func gotten(game []byte, head api.Header, b []byte) (st api.State, e api.Errno) {
	kind, l, e, _ := iff.Parse(b)
	if e != api.OK {
		return st, e
	}
	if kind != "IFZS" {
		return st, api.ErrKind
	}
	var ifhd, mem, stks, mall *api.Chunk
	for _, c := range slices.Backward(l) {
		switch c.Id {
		case "IFhd":
			ifhd = &c
		case "CMem", "UMem":
			mem = &c
		case "Stks":
			stks = &c
		case "MAll":
			mall = &c
		}
	}
	if ifhd == nil || mem == nil || stks == nil {
		return st, api.ErrNone
	}
	if string(ifhd.Data) != string(game[:128]) {
		return st, api.ErrMagic
	}
	if st.Ram, e = gottenRam(game, head, mem); e != api.OK {
		return api.State{}, e
	}
	if mall != nil {
		d := mall.Data
		if len(d) < 8 || int64(len(d)) != 8+8*int64(binary.BigEndian.Uint32(d[4:])) {
			return api.State{}, api.ErrSize
		}
		st.Heap = binary.BigEndian.Uint32(d)
		for d = d[8:]; len(d) > 0; d = d[8:] {
			st.Blocks = append(st.Blocks, block(binary.BigEndian.Uint32(d), binary.BigEndian.Uint32(d[4:])))
		}
	}
	st.Stack = stks.Data
	return st, api.OK
}

func gottenRam(game []byte, head api.Header, mem *api.Chunk) ([]byte, api.Errno) {
	if len(mem.Data) < 4 {
		return nil, api.ErrShort
	}
	n := int64(binary.BigEndian.Uint32(mem.Data))
	if n%256 != 0 || n < int64(head.EndMem) || n > 1048576 {
		return nil, api.ErrMap
	}
	size := int(n) - int(head.RamStart)
	if mem.Id == "CMem" {
		return stretched(game[head.RamStart:], size, mem.Data[4:])
	}
	if len(mem.Data) != 4+size {
		return nil, api.ErrSize
	}
	return mem.Data[4:], api.OK
}

// laid: bytes in a row; an int is a number of four bytes.
func laid(parts ...any) (b []byte) {
	for _, x := range parts {
		switch x := x.(type) {
		case string:
			b = append(b, x...)
		case []byte:
			b = append(b, x...)
		case int:
			b = binary.BigEndian.AppendUint32(b, uint32(x))
		case uint32:
			b = binary.BigEndian.AppendUint32(b, x)
		}
	}
	return b
}

// chunk: a chunk as it lies in a form.
func chunk(id string, parts ...any) []byte {
	data := laid(parts...)
	return laid(id, len(data), data, make([]byte, len(data)%2))
}

// formOf: a form of that kind, of chunks that are laid.
func formOf(kind string, chunks ...[]byte) []byte {
	rest := slices.Concat(chunks...)
	return laid("FORM", len(rest)+4, kind, rest)
}

// block: a block, in few letters.
func block(addr, n uint32) api.Block {
	return api.Block{Addr: addr, Len: n}
}

// blocks: so many blocks of n bytes, one behind the other.
func blocks(count int, start, n uint32) (l []api.Block) {
	for i := range count {
		l = append(l, block(start+uint32(i)*n, n))
	}
	return l
}

// coloured: n bytes c.
func coloured(c byte, n int) []byte {
	return bytes.Repeat([]byte{c}, n)
}

// numbered: n bytes, none of them 0, each unlike those beside it.
func numbered(n int) []byte {
	b := make([]byte, n)
	for i := range b {
		b[i] = byte(1 + i%251)
	}
	return b
}

// spread: all bytes of b, its spare room included, are c.
func spread(b []byte, c byte) {
	b = b[:cap(b)]
	for i := range b {
		b[i] = c
	}
}

// roomy: the same bytes, with spare room that is filled.
func roomy(b []byte) []byte {
	r := make([]byte, len(b)+64)
	spread(r, 0xcc)
	copy(r, b)
	return r[:len(b)]
}

// roomyBlocks: the same blocks, with spare room that is filled.
func roomyBlocks(l []api.Block) []api.Block {
	r := slices.Repeat([]api.Block{block(0xcc, 0xcc)}, len(l)+9)
	copy(r, l)
	return r[:len(l)]
}

// gameOf: a game with these bounds whose bytes behind its header are all unlike 0.
func gameOf(t *testing.T, ram, ext, end uint32) []byte {
	t.Helper()
	game, e := header.Make(api.Header{Version: 0x30103, RamStart: ram, ExtStart: ext, EndMem: end, StackSize: 256, Start: 36}, numbered(int(ext)-36))
	if e != api.OK {
		t.Fatalf("no game of %d, %d, %d: %d", ram, ext, end, e)
	}
	return game
}

// made: the memory of a game with these bounds.
func made(t *testing.T, ram, ext, end uint32) *memory.Memory {
	t.Helper()
	m, e, _ := memory.New(gameOf(t, ram, ext, end))
	if e != api.OK {
		t.Fatalf("memory.New of %d, %d, %d = %d", ram, ext, end, e)
	}
	return m
}

// small: a memory of 1024 bytes: from 512 on they may be written, from 768 on they are 0.
func small(t *testing.T) *memory.Memory {
	t.Helper()
	return made(t, 512, 768, 1024)
}

// colour: all bytes of m that may be written are c.
func colour(t *testing.T, m *memory.Memory, c byte) {
	t.Helper()
	for addr := m.Header().RamStart; addr < m.Size(); addr++ {
		good(t, "Write", m.Write(addr, 1, uint32(c)))
	}
}

// empty: a stack on which nothing lies.
func empty(t *testing.T, size int) *stack.Stack {
	t.Helper()
	s, e := stack.New(size)
	good(t, "stack.New", e)
	return s
}

// called: a stack of so many frames, each with locals, values, and a stub on top.
func called(t *testing.T, size, frames int) *stack.Stack {
	t.Helper()
	s := empty(t, size)
	for i := range uint32(frames) {
		good(t, "Enter", s.Enter([]byte{4, 1, 2, 1, 0, 0}))
		good(t, "Args", s.Args(0x01020304+i, i))
		good(t, "Push", s.Push(7*i))
		good(t, "Stub", s.Stub(i, 2, 3))
	}
	return s
}

// good: that was done.
func good(t *testing.T, what string, e api.Errno) {
	t.Helper()
	if e != api.OK {
		t.Fatalf("%s = %d", what, e)
	}
}

// same: what a call answered is what the words say.
func same[T comparable](t *testing.T, what string, got, want T) {
	t.Helper()
	if got != want {
		t.Fatalf("%s = %v, not %v", what, got, want)
	}
}

// firstOther: the first place at which a and b are not alike.
func firstOther(a, b []byte) int {
	for i := range min(len(a), len(b)) {
		if a[i] != b[i] {
			return i
		}
	}
	return min(len(a), len(b))
}

// sameBytes: these are alike.
func sameBytes(t *testing.T, what string, got, want []byte) {
	t.Helper()
	if !bytes.Equal(got, want) {
		t.Fatalf("%s: %d bytes, not the %d that are right; the first other one at %d", what, len(got), len(want), firstOther(got, want))
	}
}

// sameState: these are alike.
func sameState(t *testing.T, what string, got, want api.State) {
	t.Helper()
	sameBytes(t, what+": Ram", got.Ram, want.Ram)
	sameBytes(t, what+": Stack", got.Stack, want.Stack)
	if got.Heap != want.Heap || !slices.Equal(got.Blocks, want.Blocks) {
		t.Fatalf("%s: the heap is %d with %d blocks, not %d with %d", what, got.Heap, len(got.Blocks), want.Heap, len(want.Blocks))
	}
}

// noState: the zero State.
func noState(t *testing.T, what string, st api.State) {
	t.Helper()
	if len(st.Ram) != 0 || st.Heap != 0 || len(st.Blocks) != 0 || len(st.Stack) != 0 {
		t.Fatalf("%s: a state of %d bytes, a heap of %d with %d blocks, a stack of %d", what, len(st.Ram), st.Heap, len(st.Blocks), len(st.Stack))
	}
}

// sameMemory: both tell the same, and leave the same alone when they begin again.
func sameMemory(t *testing.T, what string, m, want *memory.Memory) {
	t.Helper()
	toldAlike(t, what, m, want)
	m, want = m.Copy(), want.Copy()
	m.Restart()
	want.Restart()
	toldAlike(t, what+", begun again", m, want)
}

func toldAlike(t *testing.T, what string, m, want *memory.Memory) {
	t.Helper()
	sameBytes(t, what+": memory", m.Bytes(), want.Bytes())
	sameBytes(t, what+": game", m.Game(), want.Game())
	start, l := m.Heap()
	begin, k := want.Heap()
	if start != begin || !slices.Equal(l, k) {
		t.Fatalf("%s: the heap is %d with %d blocks, not %d with %d", what, start, len(l), begin, len(k))
	}
}

// sameStack: both tell the same.
func sameStack(t *testing.T, what string, s, want *stack.Stack) {
	t.Helper()
	sameBytes(t, what+": stack", s.Bytes(), want.Bytes())
	f, ok := s.Frame()
	g, there := want.Frame()
	if f != g || ok != there || s.Count() != want.Count() {
		t.Fatalf("%s: the frame is %d, %t with %d values; not %d, %t with %d", what, f, ok, s.Count(), g, there, want.Count())
	}
}

// someOf: one of these by chance.
func someOf[T any](r *rand.Rand, l ...T) T {
	return l[r.Intn(len(l))]
}

// someRow: bytes by chance, of which many are 0, in runs of all lengths.
func someRow(r *rand.Rand, parts int) (b []byte) {
	for range r.Intn(parts + 1) {
		switch r.Intn(3) {
		case 0:
			b = append(b, byte(r.Intn(3)))
		case 1:
			b = append(b, byte(r.Intn(256)), byte(r.Intn(256)))
		default:
			n := someOf(r, 1, 2, 3, 254, 255, 256, 257, 258, 511, 512, 513, r.Intn(600))
			b = append(b, make([]byte, n)...)
		}
	}
	return b
}

// someMemory: the memory of a small game by chance.
func someMemory(t *testing.T, r *rand.Rand) *memory.Memory {
	t.Helper()
	ram := 256 * uint32(1+r.Intn(3))
	ext := ram + 256*uint32(r.Intn(3))
	return made(t, ram, ext, ext+256*uint32(r.Intn(3)))
}

// happen: something by chance is done with memory and stack. What is refused is nothing.
func happen(r *rand.Rand, m *memory.Memory, s *stack.Stack) {
	addr := uint32(r.Intn(int(m.Size()) + 20))
	_, l := m.Heap()
	switch r.Intn(14) {
	case 0, 1, 2:
		m.Write(addr, someOf(r, 1, 2, 4), r.Uint32())
	case 3:
		m.Fill(addr, uint32(r.Intn(300)))
	case 4:
		m.Move(uint32(r.Intn(300)), uint32(r.Intn(int(m.Size()))), addr)
	case 5:
		m.Resize(m.Header().EndMem + 256*uint32(r.Intn(5)))
	case 6, 7:
		m.Malloc(uint32(1 + r.Intn(400)))
	case 8, 9:
		if len(l) > 0 {
			m.Free(someOf(r, l...).Addr)
		}
	case 10:
		if r.Intn(9) == 0 {
			m.Restart()
		}
	default:
		happenOnStack(r, s)
	}
}

// happenOnStack: something by chance is done with the stack.
func happenOnStack(r *rand.Rand, s *stack.Stack) {
	switch r.Intn(7) {
	case 0:
		s.Stub(r.Uint32(), r.Uint32(), r.Uint32())
		s.Enter(someOf(r, []byte{0, 0}, []byte{1, 3, 0, 0}, []byte{4, 2, 2, 1, 0, 0}))
	case 1:
		s.Leave()
		s.Unstub()
	case 2:
		s.Pop()
	case 3:
		s.SetLocal(uint32(r.Intn(3)), 1, r.Uint32())
	case 4:
		s.Roll(3, r.Uint32())
	default:
		s.Push(r.Uint32())
	}
}

// someStack: a stack by chance with a current frame.
func someStack(t *testing.T, r *rand.Rand) *stack.Stack {
	t.Helper()
	s := empty(t, 500+r.Intn(3000))
	for range r.Intn(60) {
		happenOnStack(r, s)
	}
	entered(s)
	return s
}

// entered: s has a current frame, if it had none, too.
func entered(s *stack.Stack) {
	if _, ok := s.Frame(); !ok {
		s.Enter([]byte{0, 0})
	}
}
