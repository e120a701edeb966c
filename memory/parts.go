package memory

import (
	"grotto/api"
	"grotto/heap"
)

// story is what a memory was made of.
type story struct {
	head api.Header
	game []byte
}

// rom: the bytes that are never changed.
func (s *story) rom() []byte {
	return s.game[:s.head.RamStart]
}

// begun: the bytes with which a memory begins.
func (s *story) begun() []byte {
	b := make([]byte, s.head.EndMem)
	copy(b, s.game)
	return b
}

// mayEnd: may a memory be made to end here?
func (s *story) mayEnd(end uint32) bool {
	return end >= s.head.EndMem && end <= api.MaxMem && end%api.Page == 0
}

// mayBeRam: can these be the bytes from RamStart on?
func (s *story) mayBeRam(ram []byte) bool {
	// Held against the room that is left: a sum could wrap round.
	return len(ram) <= api.MaxMem-int(s.head.RamStart) && s.mayEnd(s.head.RamStart+uint32(len(ram)))
}

// space is the bytes that are there now, and the heap in them.
type space struct {
	bytes  []byte
	pieces *heap.Heap
}

// size: how many bytes there are.
func (s *space) size() uint32 {
	return uint32(len(s.bytes))
}

// has: are the n bytes from addr on there?
func (s *space) has(addr, n uint32) bool {
	// Held against the room that is left: addr + n could wrap round.
	return addr <= s.size() && n <= s.size()-addr
}

// span is the bytes from one address on, up to another.
type span struct{ from, to uint64 }

// spanOf: the span of n bytes from addr on.
func spanOf(addr, n uint32) span {
	return span{from: uint64(addr), to: uint64(addr) + uint64(n)}
}

// carry: the span's bytes of was, as far as both have them, are those of is.
func (p span) carry(was, is []byte) {
	end := uint64(min(len(was), len(is)))
	from, to := min(p.from, end), min(p.to, end)
	copy(is[from:to], was[from:to])
}

// mayChange: are the n bytes from addr on there to be written?
func (m *Memory) mayChange(addr, n uint32) bool {
	return addr >= m.head.RamStart && m.has(addr, n)
}

// become: the memory's bytes are these, but for protected ones, which stay.
func (m *Memory) become(fresh []byte) {
	m.protected.carry(m.bytes, fresh)
	m.bytes = fresh
}

// endAt: the memory ends here, and bytes that are new are 0.
func (m *Memory) endAt(end uint32) {
	was := min(m.size(), end)
	m.bytes = append(m.bytes[:was], make([]byte, end-was)...)
	// A heap that was loaded may have begun below RamStart, and the memory have ended there with it: what is never changed comes again as it was.
	copy(m.bytes[was:], m.rom()[min(was, m.head.RamStart):])
}

// loadHeap: the heap is that, in a memory with so many bytes from RamStart on; false if it can't be.
func (m *Memory) loadHeap(start uint32, ram int, l []api.Block) bool {
	end := m.head.RamStart + uint32(ram)
	if len(l) == 0 {
		end = 0
	}
	return m.pieces.Load(start, end, l...) == api.OK
}

// isWidth: is there a number of so many bytes?
func isWidth(n int) bool {
	return n == 1 || n == 2 || n == 4
}
