package snap

import (
	"slices"

	"grotto/api"
	"grotto/iff"
	"grotto/memory"
	"grotto/word"
)

// The letters of a state's form, and of its chunks.
const (
	stateKind  = "IFZS"
	headId     = "IFhd"
	squeezedId = "CMem"
	plainId    = "UMem"
	stackId    = "Stks"
	heapId     = "MAll"
)

const (
	numberBytes   = 4
	heapHeadBytes = 2 * numberBytes // of a chunk of the heap, ahead of its blocks: its start, and how many they are
	blockBytes    = 2 * numberBytes
	maxRun        = 256 // how many bytes 0 one part of a row tells at the most
)

// mix: each byte of row is now xor that of b at its place, as far as there is one.
func mix(row, b []byte) {
	for i := range min(len(row), len(b)) {
		row[i] ^= b[i]
	}
}

// appendRun: b with a run of so many bytes 0 behind it.
func appendRun(b []byte, zeros int) []byte {
	for zeros > 0 {
		n := min(zeros, maxRun)
		b = append(b, 0, byte(n-1))
		zeros -= n
	}
	return b
}

// nextPart: how many bytes the first part of b has, which is a byte or a run, and how many bytes of the row it tells; b has at least one.
func nextPart(b []byte) (told, n int, e api.Errno) {
	if b[0] != 0 {
		return 1, 1, api.OK
	}
	if len(b) == 1 {
		return 0, 0, api.ErrShort
	}
	return 2, 1 + int(b[1]), api.OK
}

// ramIn: those of b, which are a memory's bytes or its game's, from RamStart on.
func ramIn(m *memory.Memory, b []byte) []byte {
	// A memory whose heap began below RamStart ends there once the heap is no more.
	return b[min(len(b), int(m.Header().RamStart)):]
}

// headIn: the bytes that tell which game it is.
func headIn(b []byte) []byte {
	return b[:min(len(b), api.HeadSize)]
}

// numbers: these, one behind the other.
func numbers(l ...uint32) []byte {
	var b []byte
	for _, x := range l {
		b = append(b, word.Put(x, numberBytes)...)
	}
	return b
}

// heapData: what the chunk of a heap tells.
func heapData(start uint32, blocks []api.Block) []byte {
	b := numbers(start, uint32(len(blocks)))
	for _, k := range blocks {
		b = append(b, numbers(k.Addr, k.Len)...)
	}
	return b
}

// parts is the chunks of a form that tell a state; of heap there is one or none.
type parts struct {
	head, ram, stack api.Chunk
	heap             []api.Chunk
}

// partsOf: the parts of a state's form.
func partsOf(b []byte) (parts, api.Errno) {
	kind, l, e, _ := iff.Parse(b)
	if e != api.OK {
		return parts{}, e
	}
	if kind != stateKind {
		return parts{}, api.ErrKind
	}
	head, ram, pile := firstOf(l, headId), firstOf(l, squeezedId, plainId), firstOf(l, stackId)
	if len(head) == 0 || len(ram) == 0 || len(pile) == 0 {
		return parts{}, api.ErrNone
	}
	return parts{head: head[0], ram: ram[0], stack: pile[0], heap: firstOf(l, heapId)}, api.OK
}

// firstOf: the first chunk that has the letters of one of ids, alone; none, if none has them.
func firstOf(l []api.Chunk, ids ...string) []api.Chunk {
	for i, c := range l {
		if slices.Contains(ids, c.Id) {
			return l[i : i+1]
		}
	}
	return nil
}

// ramOf: a memory's bytes from RamStart on, as a chunk tells them.
func ramOf(m *memory.Memory, c api.Chunk) ([]byte, api.Errno) {
	end, e := word.Be(c.Data, 0, numberBytes)
	if e != api.OK {
		return nil, e
	}
	head := m.Header()
	if end%api.Page != 0 || end < head.EndMem || end > api.MaxMem {
		return nil, api.ErrMap
	}
	size, told := int(end-head.RamStart), c.Data[numberBytes:]
	if c.Id == squeezedId {
		return Stretch(ramIn(m, m.Game()), size, told)
	}
	if len(told) != size {
		return nil, api.ErrSize
	}
	return told, api.OK
}

// heapOf: a heap's start and blocks, as its chunk tells them; 0 and none, if there is no chunk.
func heapOf(l []api.Chunk) (start uint32, blocks []api.Block, e api.Errno) {
	if len(l) == 0 {
		return 0, nil, api.OK
	}
	b := l[0].Data
	if len(b) < heapHeadBytes {
		return 0, nil, api.ErrSize
	}
	start, count := numberAt(b, 0), numberAt(b, numberBytes)
	// In 64 bits: the greatest counts times their bytes are more than a word can be.
	if uint64(len(b)-heapHeadBytes) != blockBytes*uint64(count) {
		return 0, nil, api.ErrSize
	}
	for at := heapHeadBytes; at < len(b); at += blockBytes {
		blocks = append(blocks, api.Block{Addr: numberAt(b, at), Len: numberAt(b, at+numberBytes)})
	}
	return start, blocks, api.OK
}

// numberAt: the number at a place, of which it is known that one lies there.
func numberAt(b []byte, at int) uint32 {
	x, _ := word.Be(b, at, numberBytes)
	return x
}
