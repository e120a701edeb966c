package exec

import (
	"slices"
	"strings"
	"testing"

	"grotto/api"
)

// wideAt: where long texts lie, and the memory is that long then.
const (
	longAt  = 0x2000
	longEnd = 0x60000
)

// longTeller: a machine in that mode, with long bytes in its memory.
func longTeller(t *testing.T, mode uint32, b []byte, rows ...row) *Machine {
	t.Helper()
	m := teller(t, mode, nil, rows...)
	if !m.Memory().Resize(longEnd) {
		t.Fatal("no room")
	}
	for i, x := range b {
		if e := m.Memory().Write(longAt+uint32(i), 1, uint32(x)); e != api.OK {
			t.Fatal(e)
		}
	}
	return m
}

// longTable: where the tables of long texts lie.
const longTable = 0x40000

// leafText: a machine with a packed text of these leaves, whose characters may be many.
func leafText(t *testing.T, mode uint32, leaves [][]byte, text []int, rows ...row) *Machine {
	t.Helper()
	m := longTeller(t, mode, packed(len(leaves), text...), append([]row{in("setstringtbl", c(longTable)), in("streamstr", c(longAt))}, rows...)...)
	for i, x := range table(longTable, leaves...) {
		if e := m.Memory().Write(longTable+uint32(i), 1, uint32(x)); e != api.OK {
			t.Fatal(e)
		}
	}
	steps(t, m, 1)
	return m
}

func TestAsMuchAsMaxShow(t *testing.T) {
	for _, mode := range []uint32{0, 2} {
		// A text of n bytes, or numbers, has n pieces with a character each, and the end.
		for _, text := range []func(string) []byte{plain, wides} {
			s := strings.Repeat("x", api.MaxShow/2-1)
			m := longTeller(t, mode, text(s), in("streamstr", c(longAt)), in("nop"))
			steps(t, m, 2)
			if x := told(m.world); mode == 2 && x != s || mode == 0 && x != "" {
				t.Error(mode, len(x))
			}
			m = longTeller(t, mode, text(s+"x"), in("streamstr", c(longAt)), in("nop"))
			fails(t, m, api.FatalText)
			// All its characters were told; its end was too much.
			if x := told(m.world); mode == 2 && x != s+"x" {
				t.Error(mode, len(x))
			}
			m = longTeller(t, mode, text(s+"xy"), in("streamstr", c(longAt)))
			fails(t, m, api.FatalText)
			if x := told(m.world); mode == 2 && x != s+"x" {
				t.Error(mode, len(x))
			}
		}
	}
}

func TestJustMaxShow(t *testing.T) {
	for _, mode := range []uint32{0, 2} {
		// A piece of n characters, and the end: n + 2.
		for n, want := range map[int]api.Errno{api.MaxShow - 3: api.OK, api.MaxShow - 2: api.OK, api.MaxShow - 1: api.FatalText, api.MaxShow: api.FatalText} {
			s := strings.Repeat("y", n)
			m := leafText(t, mode, [][]byte{leafEnd, leafChars(s), leafChar('x')}, []int{1, 0}, in("nop"))
			if want != api.OK {
				fails(t, m, want)
			} else {
				steps(t, m, 2)
			}
			put := told(m.world)
			if mode == 2 && n < api.MaxShow && put != s || (mode == 0 || n == api.MaxShow) && put != "" {
				t.Error(n, len(put))
			}
		}
		// Pieces without characters count, too.
		for n, want := range map[int]api.Errno{1: api.OK, 2: api.FatalText} {
			m := leafText(t, mode, [][]byte{leafEnd, leafChars(""), leafChars(strings.Repeat("z", api.MaxShow-3))}, append(slices.Repeat([]int{1}, n), 2, 0), in("nop"))
			if e := m.Step(); e != want {
				t.Error(n, e)
			}
		}
	}
}

func TestTextWithoutEnd(t *testing.T) {
	// The root is a leaf: it needs no bits, and never ends.
	for mode := range uint32(3) {
		for leaf, perPiece := range map[string]int{"": 1, "a": 2, "abc": 4} {
			m := leafText(t, mode, [][]byte{leafChars(leaf)}, nil, in("nop"))
			if mode == 1 && leaf != "" {
				if n, e := m.Run(5000); n != 5000 || e != api.OK {
					t.Error(n, e)
				}
				continue
			}
			fails(t, m, api.FatalText)
			if s := told(m.world); mode == 2 && len(s) != len(leaf)*(api.MaxShow/perPiece) {
				t.Error(leaf, len(s))
			}
		}
	}
}

func TestMaxShowWithinAStep(t *testing.T) {
	// Handed to a function one by one, a text may be as long as it is: each step begins anew.
	s := strings.Repeat("x", api.MaxShow/2+10)
	l := fun(t, api.FuncLocals, locals(1), in("return", c(1)))
	m := longTeller(t, 1, plain(s), in("streamstr", c(longAt)), in("quit"))
	for i, x := range l {
		m.Memory().Write(0xa00+uint32(i), 1, uint32(x))
	}
	m.rock = 0xa00
	n, e := m.Run(10 * len(s))
	if n != 2+len(s) || e != api.ErrOver {
		t.Error(n, e, len(s))
	}
	// Within a piece each step looks at the piece once more: it is as long as it may be, and its end is too much.
	for n, want := range map[int]api.Errno{api.MaxShow - 2: api.ErrOver, api.MaxShow - 1: api.FatalText} {
		m := leafText(t, 1, [][]byte{leafEnd, leafChars(strings.Repeat("x", n)), leafChar('x')}, []int{1, 0}, in("quit"))
		for i, x := range l {
			m.Memory().Write(0xa00+uint32(i), 1, uint32(x))
		}
		m.rock = 0xa00
		steps(t, m, 1)
		// The stub tells how many were told: as if it had been nearly all.
		m.stk.Leave()
		m.stk.Unstub()
		m.stk.Stub(10, 8*uint32(n-2), longAt+1)
		m.stk.Enter([]byte{4, 1, 0, 0})
		if steps, e := m.Run(100); e != want {
			t.Error(n, steps, e)
		}
	}
}

func TestMaxShowWithAHastenedRock(t *testing.T) {
	// A piece of one character is asked twice: for its character, and for what is behind it. Each time it counts 2.
	most := (api.MaxShow - 1) / 4
	for n, want := range map[int]api.Errno{most: api.OK, most + 1: api.FatalText} {
		m := longTeller(t, 1, plain(strings.Repeat("x", n)), in("accelfunc", c(1), c(rockAt)), in("streamstr", c(longAt)), in("nop"))
		steps(t, m, 1)
		if e := m.Step(); e != want {
			t.Error(n, e)
		}
		if want == api.OK {
			hasValues(t, m, 1234)
		}
	}
}

func TestMaxShowOfReferences(t *testing.T) {
	// What a reference leads to counts with what it stands in: a reference, a text of n bytes, its end, the end.
	for n, want := range map[int]api.Errno{api.MaxShow/2 - 2: api.OK, api.MaxShow/2 - 1: api.FatalText} {
		for _, mode := range []uint32{0, 2} {
			m := leafText(t, mode, [][]byte{leafEnd, leafTo(0x10000), leafChar('x')}, []int{1, 0}, in("nop"))
			for i, x := range plain(strings.Repeat("x", n)) {
				m.Memory().Write(0x10000+uint32(i), 1, uint32(x))
			}
			if e := m.Step(); e != want {
				t.Error(n, e)
			}
		}
	}
}

func TestTextThatLeadsToItself(t *testing.T) {
	for mode := range uint32(3) {
		m := leafText(t, mode, [][]byte{leafEnd, leafTo(longAt)}, []int{1, 0}, in("nop"))
		fails(t, m, api.FatalOver)
		if m.Stack().Top() > 1024 {
			t.Error(m.Stack().Top())
		}
	}
}

func TestNumbersDoNotCount(t *testing.T) {
	// What counts is what text.Next answers: a number's digits do not.
	m := longTeller(t, 2, plain(strings.Repeat("x", api.MaxShow/2-1)), in("throw", c(5), c(28+4+64)))
	m.stk.Stub(11, 0, 0x12345)
	m.stk.Stub(12, 0, 1234567890)
	m.stk.Stub(12, 0, top)
	m.stk.Stub(13, 0, longAt+1)
	steps(t, m, 1)
	hasPC(t, m, 0x12345)
}
