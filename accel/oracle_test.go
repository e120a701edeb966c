package accel

import (
	"bytes"
	"encoding/binary"
	"slices"
	"testing"

	"grotto/api"
	"grotto/header"
	"grotto/memory"
)

// top is the greatest word.
const top = 1<<32 - 1

// round is how many words there are.
const round = 1 << 32

// model is what the chapter's words hang on: a memory's bytes, where RAM begins, the params, and attrs. It reckons in numbers that do not wrap round by themselves.
type model struct {
	b     []byte
	ram   uint64
	p     []uint64
	attrs uint64
}

// stopped is what ends a function of the model: it panics with it.
type stopped struct {
	slip int
	e    api.Errno
}

// modelDo: by the words of P18.6.
func modelDo(m *memory.Memory, params []uint32, n uint32, args ...uint32) (x uint32, slip int, e api.Errno) {
	if m == nil {
		return 0, api.SlipNone, api.ErrNil
	}
	if len(params) != 9 || n < 1 || n > 13 {
		return 0, api.SlipNone, api.ErrArg
	}
	defer func() {
		if r := recover(); r != nil {
			s := r.(stopped)
			x, slip, e = 0, s.slip, s.e
		}
	}()
	s := &model{b: m.Bytes(), ram: uint64(m.Header().RamStart), attrs: 7}
	for _, x := range params {
		s.p = append(s.p, uint64(x))
	}
	if n >= 8 {
		s.attrs = s.p[7]
		n -= 6
	}
	both := append(slices.Clone(args), 0, 0)
	return uint32(s.function(n)(uint64(both[0]), uint64(both[1]))), api.SlipNone, api.OK
}

// function: the function n, 1 to 7.
func (s *model) function(n uint32) func(a, b uint64) uint64 {
	return []func(a, b uint64) uint64{
		1: func(a, b uint64) uint64 { return s.region(a) },
		2: s.tab,
		3: s.addr,
		4: s.len,
		5: s.of,
		6: s.value,
		7: s.has,
	}[n]
}

// number: that of n bytes at p.
func (s *model) number(p uint64, n uint64) uint64 {
	p %= round
	if p+n > uint64(len(s.b)) {
		panic(stopped{e: api.FatalRead})
	}
	return binary.BigEndian.Uint64(append(make([]byte, 8-n), s.b[p:p+n]...))
}

func (s *model) W(p uint64) uint64 { return s.number(p, 4) }
func (s *model) H(p uint64) uint64 { return s.number(p, 2) }
func (s *model) B(p uint64) uint64 { return s.number(p, 1) }

// inClass: by the chapter's Words.
func (s *model) inClass(o uint64) bool {
	return s.W(o+13+s.attrs) == s.p[2]
}

// region: by the words of P18.1.
func (s *model) region(a uint64) uint64 {
	if a < 36 || a >= uint64(len(s.b)) {
		return 0
	}
	if s.B(a) >= 0xe0 {
		return 3
	}
	if s.B(a) >= 0xc0 {
		return 2
	}
	if s.B(a) >= 0x70 && s.B(a) <= 0x7f && a >= s.ram {
		return 1
	}
	return 0
}

// tab: by the words of P18.2, and those of P13.4 beside.
func (s *model) tab(a, b uint64) uint64 {
	if s.region(a) != 1 {
		panic(stopped{slip: api.SlipFind})
	}
	t := s.W(a + 4*(3+s.attrs/4))
	if t == 0 {
		return 0
	}
	low, high := uint64(0), s.W(t)
	for low < high {
		middle := (low + high) / 2
		at := (t + 4 + 10*middle) % round
		switch key := s.H(at); {
		case key == b%65536:
			return at
		case key < b%65536:
			low = middle + 1
		default:
			high = middle
		}
	}
	return 0
}

// prop: by the words of P18.2.
func (s *model) prop(a, b uint64) uint64 {
	c := uint64(0)
	if b >= 65536 {
		c = s.W(s.p[0] + 4*(b%65536))
		if s.of(a, c) == 0 {
			return 0
		}
		a, b = c, b/65536
	}
	p := s.tab(a, b)
	if p == 0 {
		return 0
	}
	if c == 0 && s.inClass(a) && (b < s.p[1] || b >= (s.p[1]+8)%round) {
		return 0
	}
	if s.W(s.p[6]) != a && s.B(p+9)%2 == 1 {
		return 0
	}
	return p
}

// addr: by the words of P18.3.
func (s *model) addr(a, b uint64) uint64 {
	if p := s.prop(a, b); p != 0 {
		return s.W(p + 4)
	}
	return 0
}

// len: by the words of P18.3.
func (s *model) len(a, b uint64) uint64 {
	if p := s.prop(a, b); p != 0 {
		return 4 * s.H(p+2)
	}
	return 0
}

// truth: 1, if so; else 0.
func truth(so bool) uint64 {
	if so {
		return 1
	}
	return 0
}

// of: by the words of P18.4.
func (s *model) of(a, b uint64) uint64 {
	class, object, routine, text := s.p[2], s.p[3], s.p[4], s.p[5]
	switch s.region(a) {
	case 3:
		return truth(b == text)
	case 2:
		return truth(b == routine)
	case 0:
		return 0
	}
	isClass := func() bool {
		return s.inClass(a) || a == class || a == text || a == routine || a == object
	}
	if b == class {
		return truth(isClass())
	}
	if b == object {
		return truth(!isClass())
	}
	if b == text || b == routine {
		return 0
	}
	if !s.inClass(b) {
		panic(stopped{slip: api.SlipClass})
	}
	p := s.prop(a, 2)
	if p == 0 || s.W(p+4) == 0 {
		return 0
	}
	for i := uint64(0); i < s.H(p+2); i++ {
		if s.W(s.W(p+4)+4*i) == b {
			return 1
		}
	}
	return 0
}

// value: by the words of P18.5.
func (s *model) value(a, b uint64) uint64 {
	if x := s.addr(a, b); x != 0 {
		return s.W(x)
	}
	if b > 0 && b < s.p[1] {
		return s.W(s.p[8] + 4*b)
	}
	panic(stopped{slip: api.SlipRead})
}

// has: by the words of P18.5.
func (s *model) has(a, b uint64) uint64 {
	from := func(i uint64) uint64 { return (s.p[1] + i) % round }
	switch s.region(a) {
	case 3:
		return truth(b == from(6) || b == from(7))
	case 2:
		return truth(b == from(5))
	case 0:
		return 0
	}
	if b >= from(0) && b < from(8) && s.inClass(a) {
		return 1
	}
	return truth(s.addr(a, b) != 0)
}

// ground is a memory that is being laid.
type ground struct {
	b   []byte
	ram uint32
}

// row is a row of a table of properties: its key, how many numbers it has, where they lie, its last two bytes.
type row struct {
	key, count, at, flag uint32
}

// groundSize is how many bytes a ground has.
const groundSize = 2048

// newGround: bytes of 0, RAM from 256 on.
func newGround() *ground {
	return &ground{b: make([]byte, groundSize), ram: 256}
}

// put: numbers of n bytes from addr on; those that are not there are left out.
func (g *ground) put(addr uint32, n int, l ...uint32) {
	for _, x := range l {
		four := binary.BigEndian.AppendUint32(nil, x)[4-n:]
		for i, c := range four {
			if at := uint64(addr) + uint64(i); at < uint64(len(g.b)) {
				g.b[at] = c
			}
		}
		addr += uint32(n)
	}
}

// object: an object at addr, with attrs bytes of attributes, its table, and what it says of its class.
func (g *ground) object(addr, attrs, table, class uint32) {
	g.put(addr, 1, 0x70)
	g.put(addr+4*(3+attrs/4), 4, table)
	g.put(addr+13+attrs, 4, class)
}

// table: a table of properties at addr.
func (g *ground) table(addr uint32, l ...row) {
	g.put(addr, 4, uint32(len(l)))
	for i, r := range l {
		at := addr + 4 + 10*uint32(i)
		g.put(at, 2, r.key, r.count)
		g.put(at+4, 4, r.at)
		g.put(at+8, 2, r.flag)
	}
}

// memory: that of a game which is these bytes, but for its header.
func (g *ground) memory(t *testing.T) *memory.Memory {
	t.Helper()
	head := api.Header{Version: api.MaxVersion, RamStart: g.ram, ExtStart: groundSize, EndMem: groundSize, StackSize: 256, Start: 36}
	game, e := header.Make(head, g.b[api.HeaderSize:])
	if e != api.OK {
		t.Fatal(e)
	}
	m, e, _ := memory.New(game)
	if e != api.OK {
		t.Fatal(e)
	}
	return m
}

// The objects that every game has, in these tests.
const (
	theClass   = 600
	theObject  = 630
	theRoutine = 660
	theString  = 690
)

// Where the other params lead, in these tests: Classes and Self lie where nothing is written.
const (
	theClasses  = 64
	theIndiv    = 64
	theSelf     = 48
	theDefaults = 100
)

// usual: the params of these tests.
func usual() []uint32 {
	return []uint32{theClasses, theIndiv, theClass, theObject, theRoutine, theString, theSelf, 7, theDefaults}
}

// with: params of which one is another.
func with(p []uint32, i int, x uint32) []uint32 {
	p = slices.Clone(p)
	p[i] = x
	return p
}

// args: a list of them.
func args(l ...uint32) []uint32 { return l }

// expectDo: function n comes to x, of arguments; and nothing changes.
func expectDo(t *testing.T, m *memory.Memory, p []uint32, n uint32, args []uint32, x uint32) {
	t.Helper()
	expectAll(t, m, p, n, args, x, api.SlipNone, api.OK)
}

// expectSlip: function n ends with a slip.
func expectSlip(t *testing.T, m *memory.Memory, p []uint32, n uint32, args []uint32, slip int) {
	t.Helper()
	expectAll(t, m, p, n, args, 0, slip, api.OK)
}

// expectError: function n ends with an error.
func expectError(t *testing.T, m *memory.Memory, p []uint32, n uint32, args []uint32, e api.Errno) {
	t.Helper()
	expectAll(t, m, p, n, args, 0, api.SlipNone, e)
}

// expectAll: what function n comes to, and that nothing that is handed in changes.
func expectAll(t *testing.T, m *memory.Memory, p []uint32, n uint32, args []uint32, x uint32, slip int, e api.Errno) {
	t.Helper()
	was, wasP, wasArgs := m.Bytes(), slices.Clone(p), slices.Clone(args)
	gotX, gotSlip, gotE := Do(m, p, n, args...)
	if gotX != x || gotSlip != slip || gotE != e {
		t.Errorf("function %d of %d with %d: %d, slip %d, %d; want %d, slip %d, %d", n, args, p, gotX, gotSlip, gotE, x, slip, e)
	}
	if !bytes.Equal(m.Bytes(), was) || !slices.Equal(p, wasP) || !slices.Equal(args, wasArgs) {
		t.Errorf("function %d of %d with %d: something has changed", n, args, p)
	}
}

// expectLikeModel: function n comes to what the model's does.
func expectLikeModel(t *testing.T, m *memory.Memory, p []uint32, n uint32, args []uint32) stopped {
	t.Helper()
	x, slip, e := modelDo(m, p, n, args...)
	expectAll(t, m, p, n, args, x, slip, e)
	return stopped{slip: slip, e: e}
}
