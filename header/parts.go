package header

import (
	"grotto/api"
	"grotto/word"
)

// gameMagic is what a game's first bytes are.
const gameMagic = "Glul"

// numberBytes is how long a number is.
const numberBytes = 4

// Where the numbers of a header stand.
const (
	versionPlace = 4
	ramPlace     = 8
	extPlace     = 12
	endPlace     = 16
	stackPlace   = 20
	startPlace   = 24
	tablePlace   = 28
	sumPlace     = 32
)

// checkBytes: the first fault of bytes that are to have a header, and its place.
func checkBytes(game []byte) (e api.Errno, at int) {
	if len(game) > api.MaxMem {
		return api.ErrLong, 0
	}
	// What is too short is still refused for its letters, as far as they are there.
	n := min(len(game), len(gameMagic))
	if string(game[:n]) != gameMagic[:n] {
		return api.ErrMagic, 0
	}
	if len(game) < api.HeaderSize {
		return api.ErrShort, len(game)
	}
	return api.OK, 0
}

// checkNumbers: the first fault of what a game of this size (at most MaxMem) says, its Sum aside, and that fault's place.
func checkNumbers(h api.Header, size int) (e api.Errno, at int) {
	switch {
	case h.Version < api.MinVersion || h.Version > api.MaxVersion:
		return api.ErrVersion, versionPlace
	case h.RamStart < api.Page || !wholePages(h.RamStart):
		return api.ErrMap, ramPlace
	case h.ExtStart < h.RamStart || h.ExtStart != uint32(size) || !wholePages(h.ExtStart):
		return api.ErrMap, extPlace
	case h.EndMem < h.ExtStart || h.EndMem > api.MaxMem || !wholePages(h.EndMem):
		return api.ErrMap, endPlace
	case h.StackSize == 0 || h.StackSize > api.MaxStack || !wholePages(h.StackSize):
		return api.ErrStack, stackPlace
	case h.Start < api.HeaderSize || h.Start >= h.EndMem:
		return api.ErrMap, startPlace
	case h.Table >= h.EndMem:
		return api.ErrMap, tablePlace
	}
	return api.OK, 0
}

// wholePages: is x a multiple of Page?
func wholePages(x uint32) bool {
	return x%api.Page == 0
}

// readNumbers: the numbers of a header whose bytes are there, right or not.
func readNumbers(game []byte) api.Header {
	return api.Header{
		Version:   numberAt(game, versionPlace),
		RamStart:  numberAt(game, ramPlace),
		ExtStart:  numberAt(game, extPlace),
		EndMem:    numberAt(game, endPlace),
		StackSize: numberAt(game, stackPlace),
		Start:     numberAt(game, startPlace),
		Table:     numberAt(game, tablePlace),
		Sum:       numberAt(game, sumPlace),
	}
}

// layHeader: the bytes of a header.
func layHeader(h api.Header) []byte {
	b := make([]byte, 0, api.HeaderSize)
	b = append(b, gameMagic...)
	for _, x := range [...]uint32{h.Version, h.RamStart, h.ExtStart, h.EndMem, h.StackSize, h.Start, h.Table, h.Sum} {
		b = append(b, word.Put(x, numberBytes)...)
	}
	return b
}

// numberAt: the number at p; its bytes must be there.
func numberAt(b []byte, p int) uint32 {
	n, _ := word.Be(b, p, numberBytes)
	return n
}
