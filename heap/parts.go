package heap

import "grotto/api"

// search: which block is the first that is meant; how many there are, if none is.
func (h *Heap) search(meant func(b api.Block) bool) int {
	for i, b := range h.blocks {
		if meant(b) {
			return i
		}
	}
	return len(h.blocks)
}

// firstPlace: the least address from start on at which n bytes touch no block, and how many blocks lie ahead of it.
func (h *Heap) firstPlace(start, n uint32) (i int, addr uint32) {
	addr = start
	i = h.search(func(b api.Block) bool {
		// The gap is measured by what lies between: a sum of address and length could wrap round.
		if b.Addr-addr >= n {
			return true
		}
		addr = b.Addr + b.Len
		return false
	})
	return i, addr
}

// endBehind: the end of a heap that ended at end, with n bytes at addr; false if it would be above most.
func (h *Heap) endBehind(addr, n, end uint32) (uint32, bool) {
	// In 64 bits: the last page's end is one more than a word can be.
	behind := uint64(addr) + uint64(n)
	if behind <= uint64(end) {
		return end, true
	}
	behind = (behind + api.Page - 1) / api.Page * api.Page
	if behind > uint64(h.most) {
		return 0, false
	}
	return uint32(behind), true
}

// mayBegin: can a heap without blocks begin here?
func (h *Heap) mayBegin(start uint32) bool {
	return start != 0 && wholePages(start) && start <= h.most
}

// mayBe: can the heap have these bounds and blocks?
func (h *Heap) mayBe(start, end uint32, l []api.Block) bool {
	if len(l) == 0 {
		return start == 0 && end == 0
	}
	if start == 0 || !wholePages(start) || !wholePages(end) || end > h.most {
		return false
	}
	free := start
	for _, b := range l {
		if b.Len == 0 || b.Addr < free || b.Addr > end || b.Len > end-b.Addr {
			return false
		}
		free = b.Addr + b.Len
	}
	return true
}

// wholePages: is x a multiple of Page?
func wholePages(x uint32) bool {
	return x%api.Page == 0
}
