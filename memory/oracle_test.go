package memory

import (
	"bytes"
	"math/rand"
	"slices"
	"testing"

	"grotto/api"
	"grotto/header"
	"grotto/heap"
)

// top is the greatest word.
const top = 1<<32 - 1

// model is a memory by the words of P9.1 to P9.6 alone, in numbers that never wrap round, byte by byte; its heap is layer 8's.
type model struct {
	head     api.Header
	game     []byte
	b        []byte
	h        *heap.Heap
	from, to int64 // what is protected
}

func newModel(head api.Header, game []byte) *model {
	s := &model{head: head, game: game}
	s.restart()
	return s
}

// there: are all n bytes from addr on there?
func (s *model) there(addr uint32, n int64) bool {
	return int64(addr)+n <= int64(len(s.b))
}

// open: and may they be written?
func (s *model) open(addr uint32, n int64) bool {
	return s.there(addr, n) && addr >= s.head.RamStart
}

func (s *model) read(addr uint32, n int) (x uint32, e api.Errno) {
	if !slices.Contains([]int{1, 2, 4}, n) {
		return 0, api.ErrArg
	}
	if !s.there(addr, int64(n)) {
		return 0, api.FatalRead
	}
	for i := range n {
		x = x*256 + uint32(s.b[int(addr)+i])
	}
	return x, api.OK
}

func (s *model) write(addr uint32, n int, x uint32) api.Errno {
	if !slices.Contains([]int{1, 2, 4}, n) {
		return api.ErrArg
	}
	if !s.open(addr, int64(n)) {
		return api.FatalWrite
	}
	for i := range n {
		s.b[int(addr)+n-1-i] = byte(x >> (8 * i))
	}
	return api.OK
}

func (s *model) fill(addr, n uint32) api.Errno {
	if n == 0 {
		return api.OK
	}
	if !s.open(addr, int64(n)) {
		return api.FatalWrite
	}
	for i := range n {
		s.b[addr+i] = 0
	}
	return api.OK
}

func (s *model) move(n, from, to uint32) api.Errno {
	if n == 0 {
		return api.OK
	}
	if !s.there(from, int64(n)) {
		return api.FatalRead
	}
	if !s.open(to, int64(n)) {
		return api.FatalWrite
	}
	was := bytes.Clone(s.b)
	for i := range n {
		s.b[to+i] = was[from+i]
	}
	return api.OK
}

// cut: there are n bytes. New ones are 0, and below RamStart what they always are.
func (s *model) cut(n uint32) {
	b := make([]byte, n)
	copy(b, s.game[:s.head.RamStart])
	copy(b, s.b)
	s.b = b
}

func (s *model) resize(n uint32) bool {
	if s.h.Active() || n < s.head.EndMem || n > 1048576 || n%256 != 0 {
		return false
	}
	s.cut(n)
	return true
}

func (s *model) malloc(n uint32) uint32 {
	at, ok := s.h.Malloc(n, uint32(len(s.b)))
	if ok {
		s.cut(s.h.End())
	}
	return at
}

func (s *model) free(addr uint32) api.Errno {
	start := s.h.Start()
	if s.h.Free(addr) != api.OK {
		return api.FatalHeap
	}
	if !s.h.Active() {
		s.cut(start)
	}
	return api.OK
}

func (s *model) protect(addr, n uint32) {
	s.from, s.to = int64(addr), int64(addr)+int64(n)
}

// turn: the bytes are those, but protected ones that are in both stay.
func (s *model) turn(b []byte) {
	for i := range b {
		if i < len(s.b) && s.from <= int64(i) && int64(i) < s.to {
			b[i] = s.b[i]
		}
	}
	s.b = b
}

func (s *model) restart() {
	s.h = heap.New(1048576)
	s.turn(append(bytes.Clone(s.game), make([]byte, int(s.head.EndMem)-len(s.game))...))
}

func (s *model) load(ram []byte, start uint32, l []api.Block) api.Errno {
	if len(l) > 4096 {
		return api.ErrMany
	}
	sum := int64(s.head.RamStart) + int64(len(ram))
	if sum%256 != 0 || sum < int64(s.head.EndMem) || sum > 1048576 {
		return api.ErrArg
	}
	end := uint32(sum)
	if len(l) == 0 {
		end = 0
	}
	if s.h.Load(start, end, l...) != api.OK {
		return api.ErrArg
	}
	s.turn(append(bytes.Clone(s.game[:s.head.RamStart]), ram...))
	return api.OK
}

func (s *model) copied() *model {
	c := *s
	c.b, c.h = bytes.Clone(s.b), s.h.Copy()
	return &c
}

// expectIs: what m tells of itself is what s is.
func expectIs(t *testing.T, what string, m *Memory, s *model) {
	t.Helper()
	if n := m.Size(); int(n) != len(s.b) {
		t.Fatalf("%s: the size is %d, not %d", what, n, len(s.b))
	}
	if b := m.Bytes(); !bytes.Equal(b, s.b) {
		t.Fatalf("%s: %d bytes, not the %d that are right; the first other one at %d", what, len(b), len(s.b), firstOther(b, s.b))
	}
	if start, l := m.Heap(); start != s.h.Start() || !slices.Equal(l, s.h.Blocks()) {
		t.Fatalf("%s: the heap is %d, %v; not %d, %v", what, start, short(l), s.h.Start(), short(s.h.Blocks()))
	}
	if m.Header() != s.head || !bytes.Equal(m.Game(), s.game) {
		t.Fatalf("%s: another header or game", what)
	}
}

// expectSame: both memories tell the same.
func expectSame(t *testing.T, what string, m, c *Memory) {
	t.Helper()
	start, l := c.Heap()
	expectMemory(t, what, m, c.Bytes(), start, l...)
	if m.Header() != c.Header() || !bytes.Equal(m.Game(), c.Game()) {
		t.Fatalf("%s: another header or game", what)
	}
}

// expectMemory: m has these bytes, and this heap.
func expectMemory(t *testing.T, what string, m *Memory, b []byte, start uint32, l ...api.Block) {
	t.Helper()
	if got := m.Bytes(); int(m.Size()) != len(b) || !bytes.Equal(got, b) {
		t.Fatalf("%s: %d bytes of %d, not the %d that are right; the first other one at %d", what, len(got), m.Size(), len(b), firstOther(got, b))
	}
	if s, got := m.Heap(); s != start || !slices.Equal(got, l) {
		t.Fatalf("%s: the heap is %d, %v; not %d, %v", what, s, short(got), start, short(l))
	}
}

// firstOther: the first place at which a and b are not alike.
func firstOther(a, b []byte) int {
	for i := range min(len(a), len(b)) {
		if a[i] != b[i] {
			return i
		}
	}
	return min(len(a), len(b))
}

// short: the first blocks of l, for what is told of a fault.
func short(l []api.Block) []api.Block {
	return l[:min(len(l), 20)]
}

// gameOf: a game with these bounds whose bytes behind its header are all unlike 0, and its header.
func gameOf(t *testing.T, ram, ext, end uint32) ([]byte, api.Header) {
	t.Helper()
	rest := make([]byte, ext-36)
	for i := range rest {
		rest[i] = byte(1 + i%251)
	}
	game, e := header.Make(api.Header{Version: 0x30103, RamStart: ram, ExtStart: ext, EndMem: end, StackSize: 256, Start: 36}, rest)
	if e != api.OK {
		t.Fatalf("no game of %d, %d, %d: %d", ram, ext, end, e)
	}
	head, _, _ := header.Parse(game)
	return game, head
}

// made: the memory of a game with these bounds.
func made(t *testing.T, ram, ext, end uint32) *Memory {
	t.Helper()
	game, _ := gameOf(t, ram, ext, end)
	m, e, at := New(game)
	if e != api.OK || at != 36 || m == nil {
		t.Fatalf("New of %d, %d, %d = %d at %d", ram, ext, end, e, at)
	}
	return m
}

// small: a memory of 1024 bytes: from 512 on they may be written, from 768 on they are 0.
func small(t *testing.T) *Memory {
	t.Helper()
	return made(t, 512, 768, 1024)
}

// block: a block, in few letters.
func block(addr, n uint32) api.Block {
	return api.Block{Addr: addr, Len: n}
}

// row: so many blocks of n bytes, one behind the other.
func row(count int, start, n uint32) (l []api.Block) {
	for i := range count {
		l = append(l, block(start+uint32(i)*n, n))
	}
	return l
}

// colour: all bytes of m that may be written are c.
func colour(t *testing.T, m *Memory, c byte) {
	t.Helper()
	for addr := m.Header().RamStart; addr < m.Size(); addr++ {
		if e := m.Write(addr, 1, uint32(c)); e != api.OK {
			t.Fatalf("Write(%d, 1, %d) = %d", addr, c, e)
		}
	}
}

// coloured: n bytes c.
func coloured(c byte, n int) []byte {
	return bytes.Repeat([]byte{c}, n)
}

// splice: b, but from at on there are these bytes.
func splice(b []byte, at int, c []byte) []byte {
	b = bytes.Clone(b)
	copy(b[at:at+len(c)], c)
	return b
}

// someOf: one of these by chance.
func someOf[T any](r *rand.Rand, l ...T) T {
	return l[r.Intn(len(l))]
}

// someMemory: a memory by chance with what is the same by the words.
func someMemory(t *testing.T, r *rand.Rand) (*Memory, *model) {
	t.Helper()
	ram := 256 * uint32(1+r.Intn(3))
	ext := ram + 256*uint32(r.Intn(3))
	end := ext + 256*uint32(r.Intn(3))
	game, head := gameOf(t, ram, ext, end)
	m, e, _ := New(game)
	if e != api.OK {
		t.Fatalf("New of %v = %d", head, e)
	}
	return m, newModel(head, game)
}

// someAddr: an address by chance that is just at a bound, or near it, or anywhere.
func someAddr(r *rand.Rand, s *model) uint32 {
	size := uint32(len(s.b))
	bound := someOf(r, 0, s.head.RamStart, s.head.RamStart, s.head.ExtStart, s.head.EndMem, size, size, top)
	return someOf(r, bound+someOf[uint32](r, 0, 1, 2, 3, 4, 5, top, top-1, top-2, top-3, top-4), uint32(r.Intn(len(s.b))), uint32(r.Intn(len(s.b))), r.Uint32())
}

// someLen: a length by chance that often reaches from addr just to a bound, or a byte less or more.
func someLen(r *rand.Rand, s *model, addr uint32) uint32 {
	bound := someOf(r, s.head.RamStart, s.head.EndMem, uint32(len(s.b)), 0)
	return someOf(r, bound-addr+someOf[uint32](r, 0, 0, 1, top), uint32(r.Intn(20)), uint32(r.Intn(400)), r.Uint32())
}

// someLoad: what Load may be handed, mostly right.
func someLoad(r *rand.Rand, s *model) (ram []byte, start uint32, l []api.Block) {
	end := s.head.EndMem + 256*uint32(r.Intn(4))
	ram = make([]byte, max(0, int(end-s.head.RamStart)+someOf(r, 0, 0, 0, 0, 0, 0, -1, 1, -256)))
	r.Read(ram)
	if r.Intn(3) == 0 {
		return ram, someOf[uint32](r, 0, 0, 0, 256), nil
	}
	start = someOf(r, s.head.EndMem, s.head.EndMem, 256*uint32(1+r.Intn(int(end/256))), s.head.RamStart, 256, end, 0, 1)
	for at := start + uint32(r.Intn(40)); at+100 < end && len(l) < 9; {
		b := block(at, uint32(r.Intn(100)+someOf(r, 1, 1, 1, 1, 0)))
		l = append(l, b)
		at += b.Len + uint32(r.Intn(2)*r.Intn(60))
	}
	return ram, start, l
}

// someBlock: where a block begins, mostly, or near it.
func someBlock(r *rand.Rand, s *model) uint32 {
	l := s.h.Blocks()
	if len(l) == 0 {
		return someAddr(r, s)
	}
	b := someOf(r, l...)
	return someOf(r, b.Addr, b.Addr, b.Addr, b.Addr, b.Addr, b.Addr+1, b.Addr+b.Len, 0)
}

// same: what a call answered is what the words say.
func same[T comparable](t *testing.T, what string, got, want T) {
	t.Helper()
	if got != want {
		t.Fatalf("%s = %v, not %v", what, got, want)
	}
}

// step: one call by chance on both, which must answer the same and come to the same; what it was.
func step(t *testing.T, r *rand.Rand, m *Memory, s *model) (call string, good bool) {
	t.Helper()
	switch r.Intn(10) {
	case 0, 1:
		call, good = stepBytes(t, r, m, s)
	case 2:
		addr := someAddr(r, s)
		n := someLen(r, s, addr)
		e := m.Fill(addr, n)
		same(t, "Fill", e, s.fill(addr, n))
		call, good = "Fill", e == api.OK && n > 0
	case 3:
		from, to := someAddr(r, s), someAddr(r, s)
		n := someLen(r, s, someOf(r, from, to))
		e := m.Move(n, from, to)
		same(t, "Move", e, s.move(n, from, to))
		call, good = "Move", e == api.OK && n > 0
	case 4:
		n := someOf(r, s.head.EndMem+256*uint32(r.Intn(5)), someAddr(r, s), 1<<20+256)
		good = m.Resize(n)
		same(t, "Resize", good, s.resize(n))
		call = "Resize"
	case 5, 6:
		n := someOf(r, uint32(1+r.Intn(40)), uint32(r.Intn(600)), someAddr(r, s))
		at := m.Malloc(n)
		same(t, "Malloc", at, s.malloc(n))
		call, good = "Malloc", at != 0
	case 7:
		addr := someBlock(r, s)
		e := m.Free(addr)
		same(t, "Free", e, s.free(addr))
		call, good = "Free", e == api.OK
	default:
		call, good = stepWhole(t, r, m, s)
	}
	expectIs(t, "behind "+call, m, s)
	return call, good
}

// stepBytes: one number by chance, read or written.
func stepBytes(t *testing.T, r *rand.Rand, m *Memory, s *model) (string, bool) {
	t.Helper()
	addr, n := someAddr(r, s), someOf(r, 1, 2, 4, 1, 2, 4, 0, 3, 5, -1)
	if r.Intn(2) == 0 {
		x, e := m.Read(addr, n)
		y, f := s.read(addr, n)
		same(t, "what Read tells", x, y)
		same(t, "Read", e, f)
		return "Read", e == api.OK
	}
	x := r.Uint32()
	e := m.Write(addr, n, x)
	same(t, "Write", e, s.write(addr, n, x))
	return "Write", e == api.OK
}

// stepWhole: one call by chance that is about all bytes.
func stepWhole(t *testing.T, r *rand.Rand, m *Memory, s *model) (string, bool) {
	t.Helper()
	switch r.Intn(5) {
	case 0, 1:
		addr := someAddr(r, s)
		n := someLen(r, s, addr)
		m.Protect(addr, n)
		s.protect(addr, n)
		return "Protect", n > 0
	case 2:
		m.Restart()
		s.restart()
		return "Restart", true
	}
	ram, start, l := someLoad(r, s)
	e := m.Load(ram, start, l...)
	same(t, "Load", e, s.load(ram, start, l))
	return "Load", e == api.OK
}
