package iff

import (
	"strings"

	"grotto/api"
	"grotto/word"
)

// What a form begins with, and where its parts stand.
const (
	formId         = "FORM"
	idBytes        = 4
	numberBytes    = 4
	sizePlace      = idBytes
	kindPlace      = sizePlace + numberBytes
	headBytes      = kindPlace + idBytes
	chunkHeadBytes = idBytes + numberBytes
)

// checkHead: the first fault ahead of a form's chunks, and its place.
func checkHead(b []byte) (api.Errno, int) {
	if len(b) > api.MaxForm {
		return api.ErrLong, 0
	}
	if !strings.HasPrefix(formId, string(b[:min(len(b), idBytes)])) {
		return api.ErrForm, 0
	}
	if len(b) < headBytes {
		return api.ErrShort, len(b)
	}
	if numberAt(b, sizePlace) != uint32(len(b)-kindPlace) {
		return api.ErrSize, sizePlace
	}
	if !Id(idAt(b, kindPlace)) {
		return api.ErrForm, kindPlace
	}
	return api.OK, 0
}

// checkChunk: how many bytes the data of the chunk at p has; or its first fault, and that one's place.
func checkChunk(b []byte, p int) (size int, e api.Errno, at int) {
	data := p + chunkHeadBytes
	if data > len(b) {
		return 0, api.ErrShort, len(b)
	}
	if !Id(idAt(b, p)) {
		return 0, api.ErrForm, p
	}
	n := numberAt(b, p+idBytes)
	// Held against the room that is left: data + n could wrap round.
	if n > uint32(len(b)-data) {
		return 0, api.ErrSize, p + idBytes
	}
	size = int(n)
	if size%2 == 0 {
		return size, api.OK, 0
	}
	pad := data + size
	if pad == len(b) {
		return 0, api.ErrShort, len(b)
	}
	if b[pad] != 0 {
		return 0, api.ErrPad, pad
	}
	return size, api.OK, 0
}

// idAt: the four letters at p, which must be there.
func idAt(b []byte, p int) string {
	return string(b[p : p+idBytes])
}

// numberAt: the number at p; its bytes must be there.
func numberAt(b []byte, p int) uint32 {
	n, _ := word.Be(b, p, numberBytes)
	return n
}

// allIds: have all these chunks letters that a form may hold?
func allIds(l ...api.Chunk) bool {
	for _, c := range l {
		if !Id(c.Id) {
			return false
		}
	}
	return true
}

// chunkBytes: the room that a chunk takes in a form, with the byte that makes it even.
func chunkBytes(c api.Chunk) int {
	n := len(c.Data)
	return chunkHeadBytes + n + n%2
}

// formBytes: the room that a form of these chunks takes.
func formBytes(l ...api.Chunk) int {
	n := headBytes
	for _, c := range l {
		n += chunkBytes(c)
	}
	return n
}

// appendChunk: b with a chunk behind it.
func appendChunk(b []byte, c api.Chunk) []byte {
	b = append(b, c.Id...)
	b = append(b, word.Put(uint32(len(c.Data)), numberBytes)...)
	b = append(b, c.Data...)
	if len(c.Data)%2 == 1 {
		b = append(b, 0)
	}
	return b
}
