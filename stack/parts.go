package stack

import (
	"iter"

	"grotto/api"
	"grotto/word"
)

const (
	numberBytes = 4
	headBytes   = 2 * numberBytes // of a frame, ahead of its format: its length and its pos
	stubNumbers = 4
	stubBytes   = stubNumbers * numberBytes
)

// number: the number that lies at a place, of which it is known that one does.
func number(b []byte, at int) uint32 {
	x, _ := word.Be(b, at, numberBytes)
	return x
}

// lastNumber: the number that lies on top.
func lastNumber(b []byte) uint32 {
	return number(b, len(b)-numberBytes)
}

// rest: what is left of x by n, never below 0.
func rest(x, n int) int {
	return (x%n + n) % n
}

// up: the least multiple of n that is not below x.
func up(x, n int) int {
	return x + rest(-x, n)
}

// isWidth: is there a number of so many bytes?
func isWidth(n int) bool {
	return n == 1 || n == 2 || n == 4
}

// formatOf: the format with which b begins.
func formatOf(b []byte) (format []byte, ok bool) {
	for i := 0; i+1 < len(b); i += 2 {
		width, count := b[i], b[i+1]
		if width == 0 && count == 0 {
			return b[:i+2], true
		}
		if !isWidth(int(width)) || count == 0 {
			return nil, false
		}
	}
	return nil, false
}

// eachLocal: do is handed where each local lies, counted from the first one's place, and how many bytes it has, as long as it answers true.
func eachLocal(format []byte, do func(at, n int) bool) {
	at := 0
	for i := 0; i+1 < len(format); i += 2 {
		n := int(format[i])
		for range format[i+1] {
			at = up(at, n)
			if !do(at, n) {
				return
			}
			at += n
		}
	}
}

// layout: the pos of a frame with that format, and how many bytes its locals have.
func layout(format []byte) (pos, size int) {
	eachLocal(format, func(at, n int) bool {
		size = at + n
		return true
	})
	return up(headBytes+len(format), numberBytes), up(size, numberBytes)
}

// frameEnd: where the locals of the frame at f end.
func frameEnd(b []byte, f int) int {
	return f + int(number(b, f))
}

// isFrame: does a frame lie at f that ends at t or ahead of it?
func isFrame(b []byte, f, t int) bool {
	if f+headBytes > t {
		return false
	}
	format, ok := formatOf(b[f+headBytes : t])
	if !ok {
		return false
	}
	pos, size := layout(format)
	return int(number(b, f)) == pos+size && int(number(b, f+numberBytes)) == pos && f+pos+size <= t
}

// chain: where each frame begins and ends, from the one at frame down to the one at 0. That a frame lies there, at 0 or behind a stub, is known or is for the one who ranges to see, ahead of going on.
func chain(b []byte, frame int) iter.Seq2[int, int] {
	return func(yield func(begin, end int) bool) {
		for end := len(b); yield(frame, end) && frame != 0; {
			end, frame = frame, int(number(b, frame-numberBytes))
		}
	}
}

// isStack: is it a stack with a stub on top?
func isStack(b []byte) bool {
	if len(b)%numberBytes != 0 || len(b) < stubBytes {
		return false
	}
	for begin, end := range chain(b, int(lastNumber(b))) {
		if begin%numberBytes != 0 || begin != 0 && begin < stubBytes || !isFrame(b, begin, end-stubBytes) {
			return false
		}
	}
	return true
}

// locals: the bytes of the current frame's locals.
func (s *Stack) locals() []byte {
	pos := int(number(s.bytes, s.frame+numberBytes))
	return s.bytes[s.frame+pos : frameEnd(s.bytes, s.frame)]
}

// count: how many values the current frame has.
func (s *Stack) count() int {
	return (len(s.bytes) - frameEnd(s.bytes, s.frame)) / numberBytes
}

// top: the bytes of the top n values.
func (s *Stack) top(n int) []byte {
	return s.bytes[len(s.bytes)-numberBytes*n:]
}

// push: these lie on top, the last one topmost.
func (s *Stack) push(l ...uint32) {
	for _, x := range l {
		s.bytes = append(s.bytes, word.Put(x, numberBytes)...)
	}
}

// lacks: OK, if there is a current frame that has n values; else what is wrong.
func (s *Stack) lacks(n int) api.Errno {
	switch {
	case s == nil:
		return api.ErrNil
	case !s.entered:
		return api.FatalFrame
	case n > s.count():
		return api.FatalUnder
	}
	return api.OK
}

// lacksRoom: OK, if so many bytes more may lie on the stack.
func (s *Stack) lacksRoom(n int) api.Errno {
	if n > s.size-len(s.bytes) {
		return api.FatalOver
	}
	return api.OK
}

// lacksRoomFor: OK, if the current frame has n values, and there is room for so many more.
func (s *Stack) lacksRoomFor(n, more int) api.Errno {
	if e := s.lacks(n); e != api.OK {
		return e
	}
	return s.lacksRoom(numberBytes * more)
}

// lacksStub: OK, if a stub is on top.
func (s *Stack) lacksStub() api.Errno {
	switch {
	case s == nil:
		return api.ErrNil
	case s.entered && s.count() < stubNumbers:
		return api.FatalUnder
	case s.entered && int(lastNumber(s.bytes)) != s.frame:
		return api.FatalFrame
	case len(s.bytes) == 0:
		return api.ErrNone
	}
	// Without a current frame a stub is on top of all that lies there: Enter saw it, ahead of the frame that was left.
	return api.OK
}

// lacksLocal: OK, if the n bytes from at on are the current frame's locals'.
func (s *Stack) lacksLocal(at uint32, n int) api.Errno {
	switch {
	case s == nil:
		return api.ErrNil
	case !isWidth(n):
		return api.ErrArg
	case !s.entered:
		return api.FatalFrame
	case int(at)+n > len(s.locals()):
		return api.FatalLocal
	}
	return api.OK
}
