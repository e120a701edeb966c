package shelf

import "grotto/word"

// ground is what a stream lies on: a row of characters, as a wide stream or a narrow one has them.
type ground interface {
	// size: how many characters there are.
	size(wide bool) int
	// char: the one at a place below the size.
	char(place int, wide bool) uint32
	// put: c is the one at a place up to the size.
	put(place int, wide bool, c uint32)
}

// file is a file: a wide stream's characters are four bytes each, a narrow one's one.
type file struct {
	bytes []byte
}

// buffer is a buffer: its characters are the same for all streams, and as many as they ever were.
type buffer struct {
	chars []uint32
}

// widthOf: how many bytes of a file are one character.
func widthOf(wide bool) int {
	if wide {
		return 4
	}
	return 1
}

func (f *file) size(wide bool) int {
	return len(f.bytes) / widthOf(wide)
}

func (f *file) char(place int, wide bool) uint32 {
	n := widthOf(wide)
	c, _ := word.Be(f.bytes, place*n, n)
	return c
}

func (f *file) put(place int, wide bool, c uint32) {
	n := widthOf(wide)
	// A new character begins with the bytes that were left over, so the file grows by what they lack.
	f.bytes = append(f.bytes, make([]byte, f.lengthWith(place+1, wide)-len(f.bytes))...)
	copy(f.bytes[place*n:], word.Put(c, n))
}

// lengthWith: how many bytes it has once it has that many characters at least.
func (f *file) lengthWith(size int, wide bool) int {
	return max(len(f.bytes), size*widthOf(wide))
}

func (b *buffer) size(bool) int {
	return len(b.chars)
}

func (b *buffer) char(place int, _ bool) uint32 {
	return b.chars[place]
}

func (b *buffer) put(place int, _ bool, c uint32) {
	if place < len(b.chars) {
		b.chars[place] = c
	}
}
