package heap

import (
	"math/rand"
	"slices"
	"testing"

	"grotto/api"
)

// top is the greatest word.
const top = 1<<32 - 1

// model is a heap by the words of P8.1 to P8.5 alone, in numbers that never wrap round, its blocks in no order.
type model struct {
	most, start, end int64
	blocks           []api.Block
}

// reach: where b begins, and where it ends.
func reach(b api.Block) (from, to int64) {
	return int64(b.Addr), int64(b.Addr) + int64(b.Len)
}

// isFree: do n bytes at addr touch no block?
func (m *model) isFree(addr, n int64) bool {
	for _, b := range m.blocks {
		if from, to := reach(b); addr < to && from < addr+n {
			return false
		}
	}
	return true
}

// least: the least address from the start on for n bytes: one that would do is the start, or has a block's last byte ahead of it.
func (m *model) least(n int64) int64 {
	at := int64(-1)
	for _, b := range append([]api.Block{{Addr: uint32(m.start)}}, m.blocks...) {
		if _, to := reach(b); (at < 0 || to < at) && m.isFree(to, n) {
			at = to
		}
	}
	return at
}

func (m *model) malloc(n, end int64) (uint32, bool) {
	if n == 0 || len(m.blocks) == 4096 {
		return 0, false
	}
	was := *m
	if len(m.blocks) == 0 {
		if end == 0 || end%256 != 0 || end > m.most {
			return 0, false
		}
		m.start, m.end = end, end
	}
	at := m.least(n)
	for m.end < at+n {
		// The whole pages that are missing, at once: one by one it would take too long.
		m.end += max(1, (at+n-m.end)/256) * 256
	}
	if m.end > m.most {
		*m = was
		return 0, false
	}
	m.blocks = append(slices.Clone(m.blocks), api.Block{Addr: uint32(at), Len: uint32(n)})
	return uint32(at), true
}

func (m *model) free(addr uint32) api.Errno {
	var left []api.Block
	for _, b := range m.blocks {
		if b.Addr != addr {
			left = append(left, b)
		}
	}
	if len(left) == len(m.blocks) {
		return api.ErrNone
	}
	m.blocks = left
	if len(left) == 0 {
		m.start, m.end = 0, 0
	}
	return api.OK
}

func (m *model) load(start, end uint32, l []api.Block) api.Errno {
	if len(l) > 4096 {
		return api.ErrMany
	}
	if len(l) == 0 && (start != 0 || end != 0) {
		return api.ErrArg
	}
	if len(l) > 0 && (start == 0 || start%256 != 0 || end%256 != 0 || int64(end) > m.most) {
		return api.ErrArg
	}
	behind := int64(start)
	for _, b := range l {
		from, to := reach(b)
		if b.Len == 0 || from < behind || to > int64(end) {
			return api.ErrArg
		}
		behind = to
	}
	m.start, m.end, m.blocks = int64(start), int64(end), slices.Clone(l)
	return api.OK
}

// rising: the blocks of m as P8.1 tells them.
func (m *model) rising() []api.Block {
	l := slices.Clone(m.blocks)
	slices.SortFunc(l, func(a, b api.Block) int { return int(int64(a.Addr) - int64(b.Addr)) })
	return l
}

// expectHeap: what h tells of itself.
func expectHeap(t *testing.T, what string, h *Heap, start, end uint32, l ...api.Block) {
	t.Helper()
	if h.Active() != (len(l) > 0) || h.Start() != start || h.End() != end || !slices.Equal(h.Blocks(), l) {
		t.Fatalf("%s: active %t, %d to %d, %v; not %d to %d, %v", what, h.Active(), h.Start(), h.End(), short(h.Blocks()), start, end, short(l))
	}
}

// short: the first blocks of l, for what is told of a fault.
func short(l []api.Block) []api.Block {
	return l[:min(len(l), 20)]
}

// expectModel: h is as m is.
func expectModel(t *testing.T, what string, h *Heap, m *model) {
	t.Helper()
	expectHeap(t, what, h, uint32(m.start), uint32(m.end), m.rising()...)
}

// expectBlock: Malloc lays n bytes at addr, and h ends at behind then.
func expectBlock(t *testing.T, h *Heap, n, end, addr, behind uint32) {
	t.Helper()
	if at, ok := h.Malloc(n, end); at != addr || !ok {
		t.Fatalf("Malloc(%d, %d) = %d, %t; not %d", n, end, at, ok, addr)
	}
	if h.End() != behind {
		t.Fatalf("after Malloc(%d, %d) the end is %d, not %d", n, end, h.End(), behind)
	}
}

// expectNoBlock: Malloc lays none, and h stays as it is.
func expectNoBlock(t *testing.T, h *Heap, n, end uint32) {
	t.Helper()
	was := h.Copy()
	if at, ok := h.Malloc(n, end); at != 0 || ok {
		t.Fatalf("Malloc(%d, %d) = %d, %t; not 0, false", n, end, at, ok)
	}
	expectHeap(t, "behind a Malloc that lays none", h, was.Start(), was.End(), was.Blocks()...)
}

// expectFree: Free answers e, and h stays as it is unless that is OK.
func expectFree(t *testing.T, h *Heap, addr uint32, e api.Errno) {
	t.Helper()
	was := h.Copy()
	if f := h.Free(addr); f != e {
		t.Fatalf("Free(%d) = %d, not %d", addr, f, e)
	}
	if e != api.OK {
		expectHeap(t, "behind a Free of nothing", h, was.Start(), was.End(), was.Blocks()...)
	}
}

// expectLoad: Load answers e; h is that then, or as it was.
func expectLoad(t *testing.T, what string, h *Heap, e api.Errno, start, end uint32, l ...api.Block) {
	t.Helper()
	was := h.Copy()
	if f := h.Load(start, end, l...); f != e {
		t.Fatalf("%s: Load(%d, %d, %v) = %d, not %d", what, start, end, short(l), f, e)
	}
	if e != api.OK {
		start, end, l = was.Start(), was.End(), was.Blocks()
	}
	expectHeap(t, what, h, start, end, l...)
}

// loaded: a heap that is that.
func loaded(t *testing.T, most, start, end uint32, l ...api.Block) *Heap {
	t.Helper()
	h := New(most)
	expectLoad(t, "to begin with", h, api.OK, start, end, l...)
	return h
}

// block: a block, in few letters.
func block(addr, n uint32) api.Block {
	return api.Block{Addr: addr, Len: n}
}

// row: so many blocks of n bytes, one behind the other.
func row(count int, start, n uint32) (l []api.Block) {
	for i := range count {
		l = append(l, block(start+uint32(i)*n, n))
	}
	return l
}

// someOf: one of these by chance.
func someOf[T any](r *rand.Rand, l ...T) T {
	return l[r.Intn(len(l))]
}

// someHeap: a heap by chance with what is the same by the words.
func someHeap(r *rand.Rand) (*Heap, *model) {
	most := someOf[uint32](r, 0, 255, 256, 300, 512, 1024, 4095, 4096, 1<<14, 1<<20, 1<<31, top-255, top)
	return New(most), &model{most: int64(most)}
}

// someLen: a length by chance that often is just that of a gap, or reaches just to the end or to most, or a byte less or more.
func someLen(r *rand.Rand, m *model) uint32 {
	bound := m.end + 256*int64(r.Intn(3))
	for _, b := range m.blocks {
		if r.Intn(4) == 0 {
			bound = int64(b.Addr)
		}
	}
	if r.Intn(6) == 0 {
		bound = m.most
	}
	behind := m.start
	for _, b := range m.blocks {
		if _, to := reach(b); to <= bound && to > behind {
			behind = to
		}
	}
	return someOf(r, uint32(bound-behind)+someOf[uint32](r, 0, 0, 1, top), uint32(r.Intn(40)), uint32(r.Intn(600)), r.Uint32())
}

// someEnd: an end by chance, often one at which a heap may begin.
func someEnd(r *rand.Rand, m *model) uint32 {
	pages := m.most / 256
	return someOf(r, 256, uint32(256*r.Int63n(pages+1)), uint32(256*pages), uint32(256*(pages+1)), uint32(256*max(pages-1, 0)), 0, uint32(m.most), r.Uint32())
}

// someBlock: where a block begins, mostly, or near it.
func someBlock(r *rand.Rand, m *model) uint32 {
	if len(m.blocks) == 0 {
		return someEnd(r, m)
	}
	b := someOf(r, m.blocks...)
	return someOf(r, b.Addr, b.Addr, b.Addr, b.Addr, b.Addr+1, b.Addr-1, b.Addr+b.Len, uint32(m.start), 0)
}

// step: one call by chance on both, which must answer the same; true if it changed something.
func step(t *testing.T, r *rand.Rand, h *Heap, m *model) bool {
	t.Helper()
	was := len(m.blocks)
	if r.Intn(5) < 3 {
		n, end := someLen(r, m), someEnd(r, m)
		want, good := m.malloc(int64(n), int64(end))
		if at, ok := h.Malloc(n, end); at != want || ok != good {
			t.Fatalf("Malloc(%d, %d) = %d, %t; not %d, %t; %v to %d, most %d", n, end, at, ok, want, good, short(m.rising()), m.end, m.most)
		}
	} else {
		addr := someBlock(r, m)
		want := m.free(addr)
		if e := h.Free(addr); e != want {
			t.Fatalf("Free(%d) = %d, not %d", addr, e, want)
		}
	}
	expectModel(t, "after a call by chance", h, m)
	return len(m.blocks) != was
}
