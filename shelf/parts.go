package shelf

import (
	"cmp"
	"slices"

	"grotto/api"
)

// openStream is a stream that is open.
type openStream struct {
	number  int
	on      ground
	mode    int
	wide    bool
	place   int
	read    uint32
	written uint32
}

// What ends a line; the last character that a narrow stream can write, and what it writes of others.
const (
	lineEnd    = 10
	lastNarrow = 255
	unknown    = 63
)

// isName: may a file have that name?
func isName(name string) bool {
	return 1 <= len(name) && len(name) <= api.MaxName
}

// isMode: may a stream be for that?
func isMode(mode int) bool {
	switch mode {
	case api.StreamWrite, api.StreamRead, api.StreamBoth, api.StreamAppend:
		return true
	}
	return false
}

// asWritten: what a stream writes of a character.
func asWritten(c uint32, wide bool) uint32 {
	if !wide && c > lastNarrow {
		return unknown
	}
	return c
}

func (o *openStream) reads() bool {
	return o.mode == api.StreamRead || o.mode == api.StreamBoth
}

func (o *openStream) writes() bool {
	return o.mode != api.StreamRead
}

func (o *openStream) size() int {
	return o.on.size(o.wide)
}

// next: the character at its place, behind which it is then; false at its size.
func (o *openStream) next() (uint32, bool) {
	if o.place >= o.size() {
		return 0, false
	}
	c := o.on.char(o.place, o.wide)
	o.place++
	o.read++
	return c, true
}

// write: c is the character at its place.
func (o *openStream) write(c uint32) {
	o.on.put(o.place, o.wide, asWritten(c, o.wide))
	o.place = min(o.place+1, o.size())
	o.written++
}

// move: its place is so far from that one, within its bounds.
func (o *openStream) move(from, by int) {
	// Bounded ahead of the sum, which could wrap round.
	o.place = from + min(max(by, -from), o.size()-from)
}

// left: what is left of a stream that is closed, the characters of a buffer.
func (o *openStream) left() []uint32 {
	if b, ok := o.on.(*buffer); ok {
		return b.chars
	}
	return nil
}

// liesOn: is that file what it lies on?
func (o *openStream) liesOn(f *file) bool {
	on, ok := o.on.(*file)
	return ok && on == f
}

// at: the stream of that number.
func (s *Shelf) at(number int) (*openStream, api.Errno) {
	if s == nil {
		return nil, api.ErrNil
	}
	i, found := slices.BinarySearchFunc(s.streams, number, func(o *openStream, n int) int { return cmp.Compare(o.number, n) })
	if !found {
		return nil, api.ErrNone
	}
	return s.streams[i], api.OK
}

// readerAt: the stream of that number, which reads.
func (s *Shelf) readerAt(number int) (*openStream, api.Errno) {
	o, e := s.at(number)
	if e != api.OK {
		return nil, e
	}
	if !o.reads() {
		return nil, api.ErrArg
	}
	return o, api.OK
}

// add: one stream more; its number.
func (s *Shelf) add(o *openStream) int {
	s.last++
	o.number = s.last
	s.streams = append(s.streams, o)
	return o.number
}

// fileFor: the file of that name, which is made if it is not there.
func (s *Shelf) fileFor(name string) *file {
	if s.files == nil {
		s.files = map[string]*file{}
	}
	if s.files[name] == nil {
		s.files[name] = &file{}
	}
	return s.files[name]
}

// isTaken: does a stream lie on that file beside which none of that mode may be?
func (s *Shelf) isTaken(f *file, mode int) bool {
	return slices.ContainsFunc(s.streams, func(o *openStream) bool {
		return o.liesOn(f) && (o.mode != api.StreamRead || mode != api.StreamRead)
	})
}

// bytesBeside: how many bytes all files have but that one.
func (s *Shelf) bytesBeside(f *file) int {
	n := 0
	for _, other := range s.files {
		if other != f {
			n += len(other.bytes)
		}
	}
	return n
}

// mayHave: may that file, of nil a new one, have n bytes beside the others?
func (s *Shelf) mayHave(f *file, n int) bool {
	return n <= s.most-s.bytesBeside(f)
}

// hasRoom: may n characters be written to that stream?
func (s *Shelf) hasRoom(o *openStream, n int) bool {
	f, ok := o.on.(*file)
	return !ok || s.mayHave(f, f.lengthWith(o.place+n, o.wide))
}

// mayPut: why a file of that name cannot have n bytes.
func (s *Shelf) mayPut(name string, n int) api.Errno {
	if s == nil {
		return api.ErrNil
	}
	f := s.files[name]
	switch {
	case !isName(name):
		return api.ErrArg
	case s.isTaken(f, api.StreamWrite):
		return api.ErrThere
	case f == nil && len(s.files) >= api.MaxFiles:
		return api.ErrMany
	case !s.mayHave(f, n):
		return api.ErrFull
	}
	return api.OK
}

// mayOpen: why no stream of that mode can be opened on a file of that name.
func (s *Shelf) mayOpen(name string, mode int) api.Errno {
	if s == nil {
		return api.ErrNil
	}
	f := s.files[name]
	switch {
	case !isName(name) || !isMode(mode):
		return api.ErrArg
	case len(s.streams) >= api.MaxStreams:
		return api.ErrMany
	case f == nil && mode == api.StreamRead:
		return api.ErrNone
	case f == nil && len(s.files) >= api.MaxFiles:
		return api.ErrMany
	case s.isTaken(f, mode):
		return api.ErrThere
	}
	return api.OK
}
