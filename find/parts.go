package find

import (
	"bytes"

	"grotto/api"
	"grotto/memory"
)

// noIndex is what is told with FindIndex, if none is found.
const noIndex = 1<<32 - 1

// linkSize: how many bytes tell where a structure's next one lies.
const linkSize = 4

// hunt is what is looked for, and where; held is the key of the structure that was looked at last.
type hunt struct {
	m    *memory.Memory
	s    api.Search
	key  []byte
	held []byte
}

// spot is a structure: which one it is, and where it lies.
type spot struct {
	index uint32
	addr  uint32
}

// way is how one goes through the structures, to the one that is found.
type way func() (spot, api.Errno)

// begin: a hunt for what a search looks for.
func begin(m *memory.Memory, s api.Search) (*hunt, api.Errno) {
	key, e := Key(m, s)
	if e != api.OK {
		return nil, e
	}
	return &hunt{m: m, s: s, key: key, held: make([]byte, len(key))}, api.OK
}

// tell: what is told of the structure to which a way leads.
func (h *hunt) tell(through way) (uint32, api.Errno) {
	at, e := through()
	switch {
	case e != api.OK:
		return 0, e
	case asks(h.s, api.FindIndex):
		return at.index, api.OK
	}
	return at.addr, api.OK
}

// alongRow: the way from one to the next in a row.
func (h *hunt) alongRow() (spot, api.Errno) {
	// A Count of 2^32 - 1 is for ever: a row comes to the memory's end long ahead of it, or has a Size of 0.
	for i := uint32(0); i < h.s.Count; i++ {
		at := h.inRow(i)
		order, e := h.look(at.addr)
		switch {
		case e != api.OK:
			return spot{}, e
		case order == 0:
			return at, api.OK
		case h.isEnd() || h.s.Size == 0:
			return none()
		}
	}
	return none()
}

// byHalves: the way to the middle one of those that are left in a row.
func (h *hunt) byHalves() (spot, api.Errno) {
	low, high := uint32(0), h.s.Count
	for low < high {
		// Both together could wrap round.
		at := h.inRow(low + (high-low)/2)
		order, e := h.look(at.addr)
		switch {
		case e != api.OK:
			return spot{}, e
		case order == 0:
			return at, api.OK
		case order < 0:
			low = at.index + 1
		default:
			high = at.index
		}
	}
	return none()
}

// alongChain: the way from one to where it tells that the next one lies.
func (h *hunt) alongChain() (spot, api.Errno) {
	at := spot{addr: h.s.Start}
	for ; at.addr != 0; at.index++ {
		if at.index == api.MaxLinks {
			return spot{}, api.FatalLoop
		}
		order, e := h.look(at.addr)
		switch {
		case e != api.OK:
			return spot{}, e
		case order == 0:
			return at, api.OK
		case h.isEnd():
			return none()
		}
		if at.addr, e = h.m.Read(at.addr+h.s.Next, linkSize); e != api.OK {
			return spot{}, e
		}
	}
	return none()
}

// inRow: structure i of a row.
func (h *hunt) inRow(i uint32) spot {
	return spot{index: i, addr: h.s.Start + i*h.s.Size}
}

// look: the key of the structure at an address, held against what is looked for: below it (-1), the same (0), above it (1).
func (h *hunt) look(addr uint32) (int, api.Errno) {
	if e := take(h.m, addr+h.s.Offset, h.held); e != api.OK {
		return 0, e
	}
	return bytes.Compare(h.held, h.key), api.OK
}

// isEnd: does the structure that was looked at last say that there are no more?
func (h *hunt) isEnd() bool {
	if !asks(h.s, api.FindZero) {
		return false
	}
	for _, x := range h.held {
		if x != 0 {
			return false
		}
	}
	return true
}

// none: no structure.
func none() (spot, api.Errno) {
	return spot{index: noIndex}, api.OK
}

// asks: is that option among a search's?
func asks(s api.Search, option uint32) bool {
	return s.Options&option != 0
}

// mayBeKey: can a search's key be so long?
func mayBeKey(s api.Search) bool {
	if asks(s, api.FindIndirect) {
		return s.KeySize <= api.MaxKey
	}
	return s.KeySize == 1 || s.KeySize == 2 || s.KeySize == 4
}

// take: the bytes from an address on, into b.
func take(m *memory.Memory, addr uint32, b []byte) api.Errno {
	for i := range b {
		x, e := m.Read(addr+uint32(i), 1)
		if e != api.OK {
			return e
		}
		b[i] = byte(x)
	}
	return api.OK
}
