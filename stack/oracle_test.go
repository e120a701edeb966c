package stack

import (
	"bytes"
	"math/rand"
	"slices"
	"testing"

	"grotto/api"
)

// top32 is the greatest word.
const top32 = 1<<32 - 1

// place is where a local lies, counted from the first one's place, and how many bytes it has.
type place struct{ at, n int }

// call is one frame: its format with the bytes behind it, its locals' bytes, its values.
type call struct {
	format, behind, locals []byte
	values                 []uint32
}

// model is a stack by the words of P10.1 to P10.8 alone, as a row of frames and not as bytes.
type model struct {
	size    int
	frames  []call
	entered bool
}

// placesOf: the locals of a format, how many bytes they have in all, and whether it is one.
func placesOf(format []byte) (l []place, size int, ok bool) {
	if len(format) < 2 || len(format)%2 != 0 {
		return nil, 0, false
	}
	for i := 0; i < len(format); i += 2 {
		n, count := int(format[i]), int(format[i+1])
		last := i == len(format)-2
		if zero := n == 0 && count == 0; zero != last {
			return nil, 0, false
		}
		if !last && (count == 0 || !slices.Contains([]int{1, 2, 4}, n)) {
			return nil, 0, false
		}
		for range count {
			for size%n != 0 {
				size++
			}
			l = append(l, place{size, n})
			size += n
		}
	}
	for size%4 != 0 {
		size++
	}
	return l, size, true
}

// words: these numbers, in four bytes each.
func words(l ...uint32) (b []byte) {
	for _, x := range l {
		b = append(b, byte(x>>24), byte(x>>16), byte(x>>8), byte(x))
	}
	return b
}

// wordAt: the number that four bytes say.
func wordAt(b []byte, at int) uint32 {
	return uint32(b[at])<<24 | uint32(b[at+1])<<16 | uint32(b[at+2])<<8 | uint32(b[at+3])
}

// bare: how many bytes the frame has without its values.
func (c call) bare() int {
	return 8 + len(c.format) + len(c.behind) + len(c.locals)
}

// newCall: a frame of that format, its locals 0.
func newCall(format []byte, size int) call {
	c := call{format: bytes.Clone(format), locals: make([]byte, size)}
	for (8+len(c.format)+len(c.behind))%4 != 0 {
		c.behind = append(c.behind, 0)
	}
	return c
}

func (s *model) bytes() (b []byte) {
	for _, c := range s.frames {
		b = append(b, words(uint32(c.bare()), uint32(8+len(c.format)+len(c.behind)))...)
		b = append(b, c.format...)
		b = append(b, c.behind...)
		b = append(b, c.locals...)
		b = append(b, words(c.values...)...)
	}
	return b
}

// begin: where the frame i begins; of the one behind the last one the top.
func (s *model) begin(i int) (n int) {
	for _, c := range s.frames[:i] {
		n += c.bare() + 4*len(c.values)
	}
	return n
}

func (s *model) top() int {
	return s.begin(len(s.frames))
}

// last: the topmost frame. It is the current one, if one is.
func (s *model) last() *call {
	return &s.frames[len(s.frames)-1]
}

func (s *model) lastBegin() int {
	return s.begin(len(s.frames) - 1)
}

func (s *model) frame() (uint32, bool) {
	if !s.entered {
		return 0, false
	}
	return uint32(s.lastBegin()), true
}

func (s *model) enter(format []byte) api.Errno {
	_, size, ok := placesOf(format)
	if !ok {
		return api.FatalFrame
	}
	if s.entered {
		v := s.last().values
		if len(v) < 4 || v[len(v)-1] != uint32(s.lastBegin()) {
			return api.FatalFrame
		}
	}
	c := newCall(format, size)
	if s.top()+c.bare() > s.size {
		return api.FatalOver
	}
	s.frames, s.entered = append(s.frames, c), true
	return api.OK
}

func (s *model) leave() api.Errno {
	if !s.entered {
		return api.FatalFrame
	}
	s.frames, s.entered = s.frames[:len(s.frames)-1], false
	return api.OK
}

func (s *model) args(l []uint32) api.Errno {
	if !s.entered {
		return api.FatalFrame
	}
	c := s.last()
	places, _, _ := placesOf(c.format)
	for i := 0; i < len(l) && i < len(places); i++ {
		s.setLocal(uint32(places[i].at), places[i].n, l[i])
	}
	return api.OK
}

func (s *model) local(at uint32, n int) (x uint32, e api.Errno) {
	if n != 1 && n != 2 && n != 4 {
		return 0, api.ErrArg
	}
	if !s.entered {
		return 0, api.FatalFrame
	}
	if int64(at)+int64(n) > int64(len(s.last().locals)) {
		return 0, api.FatalLocal
	}
	for i := range n {
		x = x*256 + uint32(s.last().locals[int(at)+i])
	}
	return x, api.OK
}

func (s *model) setLocal(at uint32, n int, x uint32) api.Errno {
	if _, e := s.local(at, n); e != api.OK {
		return e
	}
	for i := range n {
		s.last().locals[int(at)+n-1-i] = byte(x >> (8 * i))
	}
	return api.OK
}

// values: the current frame's; FatalUnder, if they are fewer than n.
func (s *model) values(n int64) ([]uint32, api.Errno) {
	if !s.entered {
		return nil, api.FatalFrame
	}
	v := s.last().values
	if int64(len(v)) < n {
		return nil, api.FatalUnder
	}
	return v, api.OK
}

// lay: these are on top, if there is room.
func (s *model) lay(l ...uint32) api.Errno {
	if s.top()+4*len(l) > s.size {
		return api.FatalOver
	}
	c := s.last()
	c.values = append(slices.Clone(c.values), l...)
	return api.OK
}

func (s *model) push(x uint32) api.Errno {
	if !s.entered {
		return api.FatalFrame
	}
	return s.lay(x)
}

func (s *model) pop() (uint32, api.Errno) {
	x, e := s.peek(0)
	if e == api.OK {
		s.last().values = s.last().values[:len(s.last().values)-1]
	}
	return x, e
}

func (s *model) peek(i uint32) (uint32, api.Errno) {
	v, e := s.values(int64(i) + 1)
	if e != api.OK {
		return 0, e
	}
	return v[len(v)-1-int(i)], api.OK
}

func (s *model) count() int {
	v, _ := s.values(0)
	return len(v)
}

func (s *model) swap() api.Errno {
	v, e := s.values(2)
	if e != api.OK {
		return e
	}
	v = slices.Clone(v)
	v[len(v)-1], v[len(v)-2] = v[len(v)-2], v[len(v)-1]
	s.last().values = v
	return api.OK
}

func (s *model) roll(n, k uint32) api.Errno {
	v, e := s.values(int64(n))
	if e != api.OK {
		return e
	}
	is := slices.Clone(v)
	low := len(v) - int(n)
	for i := range int(n) {
		to := (int64(i) + int64(int32(k))) % int64(n)
		if to < 0 {
			to += int64(n)
		}
		is[low+int(to)] = v[low+i]
	}
	s.last().values = is
	return api.OK
}

func (s *model) dup(n uint32) api.Errno {
	v, e := s.values(int64(n))
	if e != api.OK {
		return e
	}
	return s.lay(v[len(v)-int(n):]...)
}

func (s *model) stub(kind, addr, pc uint32) api.Errno {
	if !s.entered {
		return api.FatalFrame
	}
	return s.lay(kind, addr, pc, uint32(s.lastBegin()))
}

func (s *model) unstub() (kind, addr, pc uint32, e api.Errno) {
	if !s.entered && len(s.frames) == 0 {
		return 0, 0, 0, api.ErrNone
	}
	v := s.last().values
	if s.entered && len(v) < 4 {
		return 0, 0, 0, api.FatalUnder
	}
	n := len(v) - 4
	if s.entered && v[n+3] != uint32(s.lastBegin()) {
		return 0, 0, 0, api.FatalFrame
	}
	s.last().values, s.entered = v[:n], true
	return v[n], v[n+1], v[n+2], api.OK
}

func (s *model) throw(token uint32) api.Errno {
	if !s.entered || token%4 != 0 || token < 16 || int(token) > s.top() {
		return api.FatalThrow
	}
	told := wordAt(s.bytes(), int(token)-4)
	for i, c := range s.frames {
		low := s.begin(i) + c.bare()
		if uint32(s.begin(i)) == told && low <= int(token)-16 && int(token) <= s.begin(i+1) {
			s.frames = s.frames[:i+1]
			s.last().values = c.values[:(int(token)-low)/4]
			return api.OK
		}
	}
	return api.FatalThrow
}

// parse: the frames of a stack with a stub on top.
func parse(b []byte) ([]call, bool) {
	if len(b)%4 != 0 || len(b) < 16 {
		return nil, false
	}
	t, f := len(b)-16, int(wordAt(b, len(b)-4))
	if f%4 != 0 || f >= t || f != 0 && f < 16 {
		return nil, false
	}
	c, ok := parseCall(b[f:t])
	if !ok {
		return nil, false
	}
	for at := f + c.bare(); at < len(b); at += 4 {
		c.values = append(c.values, wordAt(b, at))
	}
	if f == 0 {
		return []call{c}, true
	}
	below, ok := parse(b[:f])
	return append(below, c), ok
}

// parseCall: the frame with which b begins.
func parseCall(b []byte) (c call, ok bool) {
	for n := 10; n <= len(b); n += 2 {
		_, size, ok := placesOf(b[8:n])
		if !ok {
			continue
		}
		c = newCall(b[8:n], size)
		pos := n + len(c.behind)
		if int(wordAt(b, 0)) != pos+size || int(wordAt(b, 4)) != pos || pos+size > len(b) {
			return call{}, false
		}
		copy(c.behind, b[n:pos])
		copy(c.locals, b[pos:pos+size])
		return c, true
	}
	return call{}, false
}

func (s *model) load(b []byte) api.Errno {
	frames, ok := parse(b)
	if len(b) > s.size || !ok {
		return api.FatalFrame
	}
	s.frames, s.entered = frames, true
	return api.OK
}

func (s *model) copied() *model {
	c := &model{size: s.size, entered: s.entered}
	for _, f := range s.frames {
		c.frames = append(c.frames, call{f.format, f.behind, bytes.Clone(f.locals), slices.Clone(f.values)})
	}
	return c
}

// expectIs: what s tells of itself is what m is.
func expectIs(t *testing.T, what string, s *Stack, m *model) {
	t.Helper()
	f, ok := m.frame()
	expectStack(t, what, s, m.bytes(), f, ok)
	if n := s.Count(); n != m.count() {
		t.Fatalf("%s: Count() = %d, not %d", what, n, m.count())
	}
}

// expectStack: s has these bytes, and this current frame.
func expectStack(t *testing.T, what string, s *Stack, b []byte, f uint32, ok bool) {
	t.Helper()
	if got := s.Bytes(); !bytes.Equal(got, b) {
		t.Fatalf("%s: the bytes are % x, not % x", what, short(got), short(b))
	}
	if n := s.Top(); int(n) != len(b) {
		t.Fatalf("%s: Top() = %d, not %d", what, n, len(b))
	}
	if g, there := s.Frame(); g != f || there != ok {
		t.Fatalf("%s: Frame() = %d, %t; not %d, %t", what, g, there, f, ok)
	}
}

// expectSame: both stacks tell the same.
func expectSame(t *testing.T, what string, s, c *Stack) {
	t.Helper()
	f, ok := c.Frame()
	expectStack(t, what, s, c.Bytes(), f, ok)
}

// short: the first bytes of b, for what is told of a fault.
func short(b []byte) []byte {
	return b[:min(len(b), 200)]
}

// same: what a call answered is what the words say.
func same[T comparable](t *testing.T, what string, got, want T) {
	t.Helper()
	if got != want {
		t.Fatalf("%s = %v, not %v", what, got, want)
	}
}

// someOf: one of these by chance.
func someOf[T any](r *rand.Rand, l ...T) T {
	return l[r.Intn(len(l))]
}

// someFormat: a format by chance, mostly with few locals; seldom none.
func someFormat(r *rand.Rand) (b []byte) {
	for range someOf(r, 0, 0, 1, 1, 1, 2, 3) {
		b = append(b, someOf[byte](r, 1, 2, 4), someOf(r, byte(1+r.Intn(4)), byte(1+r.Intn(4)), byte(1+r.Intn(9)), byte(r.Intn(256))))
	}
	b = append(b, 0, 0)
	if r.Intn(12) == 0 {
		b[r.Intn(len(b))] = byte(r.Intn(6))
	}
	if r.Intn(30) == 0 {
		b = b[:r.Intn(len(b))]
	}
	return b
}

// someWord: a number by chance; often one that tells a frame.
func someWord(r *rand.Rand, m *model) uint32 {
	begin := 0
	if len(m.frames) > 0 {
		begin = m.begin(r.Intn(len(m.frames)))
	}
	return someOf(r, uint32(begin), uint32(begin), uint32(r.Intn(10)), r.Uint32(), 1<<31, top32)
}

// someCount: how many values, by chance: mostly as many as there are, or fewer.
func someCount(r *rand.Rand, m *model) uint32 {
	n := uint32(m.count())
	return someOf(r, uint32(r.Intn(int(n)+1)), uint32(r.Intn(int(n)+1)), uint32(r.Intn(5)), n, n+1, n-1, r.Uint32(), 1<<31, 1<<30)
}

// someToken: a token by chance, mostly where a frame ends or a stub may.
func someToken(r *rand.Rand, m *model) uint32 {
	top := uint32(m.top())
	if len(m.frames) == 0 {
		return someOf(r, 0, top, 16)
	}
	i := r.Intn(len(m.frames))
	low, end := uint32(m.begin(i)+m.frames[i].bare()), uint32(m.begin(i+1))
	return someOf(r, end, end, end, low+16, low+16, low+12, low+20, end+4, end-4, end+1, top, top+4, top-16, uint32(4*r.Intn(1+int(top)/4)), 12, 16)
}

// someLoad: what Load may be handed: the stack itself or what it was, mostly with a stub on top, sometimes spoilt.
func someLoad(r *rand.Rand, m *model) []byte {
	c := m.copied()
	c.size = 1 << 20
	for r.Intn(3) == 0 && len(c.frames) > 1 {
		c.leave()
		c.unstub()
	}
	if !c.entered && len(c.frames) == 0 {
		c.enter(someFormat(r))
	}
	if r.Intn(8) > 0 {
		c.stub(r.Uint32(), r.Uint32(), r.Uint32())
	}
	b := c.bytes()
	if r.Intn(2) == 0 && len(b) > 0 {
		b[r.Intn(len(b))] ^= 1 << r.Intn(8)
	}
	if r.Intn(10) == 0 {
		b = b[:r.Intn(len(b)+1)]
	}
	return b
}

// step: one call by chance on both, which must answer the same and come to the same; what it was, and whether it was done.
func step(t *testing.T, r *rand.Rand, s *Stack, m *model) (what string, good bool) {
	t.Helper()
	var e, f api.Errno
	switch r.Intn(7) {
	case 0, 1:
		what, e, f = stepFrame(t, r, s, m)
	case 2:
		what, e, f = stepLocal(t, r, s, m)
	case 3, 4:
		what, e, f = stepValue(t, r, s, m)
	case 5:
		what, e, f = stepValues(r, s, m)
	default:
		what, e, f = stepStub(t, r, s, m)
	}
	same(t, what, e, f)
	expectIs(t, "behind "+what, s, m)
	return what, e == api.OK
}

func stepFrame(t *testing.T, r *rand.Rand, s *Stack, m *model) (what string, e, f api.Errno) {
	t.Helper()
	switch r.Intn(8) {
	case 0:
		return "Leave", s.Leave(), m.leave()
	case 1:
		if r.Intn(4) > 0 {
			return "Push", s.Push(1), m.push(1)
		}
		b := someLoad(r, m)
		return "Load", s.Load(b), m.load(b)
	case 2:
		token := someToken(r, m)
		return "Throw", s.Throw(token), m.throw(token)
	}
	format := someFormat(r)
	if r.Intn(4) > 0 {
		same(t, "Stub ahead of Enter", s.Stub(1, 2, 3), m.stub(1, 2, 3))
	}
	return "Enter", s.Enter(format), m.enter(format)
}

func stepLocal(t *testing.T, r *rand.Rand, s *Stack, m *model) (what string, e, f api.Errno) {
	t.Helper()
	size := 0
	if m.entered {
		size = len(m.last().locals)
	}
	at := someOf(r, uint32(r.Intn(size+1)), uint32(r.Intn(size+1)), uint32(size-r.Intn(5)), uint32(size), r.Uint32(), top32-uint32(r.Intn(4)))
	n := someOf(r, 1, 2, 4, 1, 2, 4, 1, 2, 4, 0, 3, 5, 8, -1)
	switch r.Intn(3) {
	case 0:
		l := make([]uint32, r.Intn(6))
		for i := range l {
			l[i] = r.Uint32()
		}
		return "Args", s.Args(l...), m.args(l)
	case 1:
		x := r.Uint32()
		return "SetLocal", s.SetLocal(at, n, x), m.setLocal(at, n, x)
	}
	x, e := s.Local(at, n)
	y, f := m.local(at, n)
	same(t, "what Local tells", x, y)
	return "Local", e, f
}

func stepValue(t *testing.T, r *rand.Rand, s *Stack, m *model) (what string, e, f api.Errno) {
	t.Helper()
	var x, y uint32
	switch r.Intn(6) {
	case 0:
		what = "Pop"
		x, e = s.Pop()
		y, f = m.pop()
	case 1:
		what = "Peek"
		i := someCount(r, m)
		x, e = s.Peek(i)
		y, f = m.peek(i)
	default:
		x := someWord(r, m)
		return "Push", s.Push(x), m.push(x)
	}
	same(t, "what "+what+" tells", x, y)
	return what, e, f
}

func stepValues(r *rand.Rand, s *Stack, m *model) (what string, e, f api.Errno) {
	n := someCount(r, m)
	switch r.Intn(4) {
	case 0:
		return "Swap", s.Swap(), m.swap()
	case 1:
		return "Dup", s.Dup(n), m.dup(n)
	}
	k := someOf(r, 0, 1, 2, n, n-1, n+1, -n, r.Uint32(), 1<<31, 1<<31-1, 1<<31+1, top32, top32-1)
	return "Roll", s.Roll(n, k), m.roll(n, k)
}

func stepStub(t *testing.T, r *rand.Rand, s *Stack, m *model) (what string, e, f api.Errno) {
	t.Helper()
	kind, addr, pc := someWord(r, m), someWord(r, m), someWord(r, m)
	if r.Intn(2) == 0 {
		return "Stub", s.Stub(kind, addr, pc), m.stub(kind, addr, pc)
	}
	k, a, p, e := s.Unstub()
	kind, addr, pc, f = m.unstub()
	same(t, "what Unstub tells", [3]uint32{k, a, p}, [3]uint32{kind, addr, pc})
	return "Unstub", e, f
}

// someStack: an empty stack by chance with what is the same by the words.
func someStack(t *testing.T, r *rand.Rand) (*Stack, *model) {
	t.Helper()
	size := someOf(r, 40+r.Intn(60), 100+r.Intn(200), 300+r.Intn(900))
	return made(t, size), &model{size: size}
}

// made: an empty stack for so many bytes.
func made(t *testing.T, size int) *Stack {
	t.Helper()
	s, e := New(size)
	if s == nil || e != api.OK {
		t.Fatalf("New(%d) = %v, %d", size, s, e)
	}
	return s
}

// good: the call was done.
func good(t *testing.T, what string, e api.Errno) {
	t.Helper()
	if e != api.OK {
		t.Fatalf("%s = %d", what, e)
	}
}
