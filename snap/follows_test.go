package snap

import (
	"bytes"
	"math/rand"
	"testing"

	"grotto/api"
	"grotto/memory"
	"grotto/stack"
)

// expectSqueezed: Stretch of Squeeze is now, whatever was; and it has three bytes for two at most.
func expectSqueezed(t *testing.T, what string, was, now []byte) {
	t.Helper()
	b := Squeeze(was, now)
	if len(b) > (3*len(now)+1)/2 {
		t.Fatalf("%s: %d bytes for %d", what, len(b), len(now))
	}
	back, e := Stretch(was, len(now), b)
	same(t, what+": Stretch's error", e, api.OK)
	sameBytes(t, what, back, now)
}

// P17.7

// TestSqueezeAllShortRows: of all rows of three kinds of bytes, up to eight of them.
func TestSqueezeAllShortRows(t *testing.T) {
	for n := range 9 {
		count := 1
		for range n {
			count *= 3
		}
		for x := range count {
			now := make([]byte, n)
			for i := range now {
				now[i] = byte(x % 3)
				x /= 3
			}
			expectSqueezed(t, "of none", nil, now)
			expectSqueezed(t, "of one that is shorter", coloured(1, n/2), now)
			expectSqueezed(t, "of one as long", coloured(2, n), now)
			expectSqueezed(t, "of one that is longer", coloured(2, n+3), now)
		}
	}
}

// TestSqueezeAtWorst: nothing takes more bytes than a row in which every second byte is 0.
func TestSqueezeAtWorst(t *testing.T) {
	for _, n := range []int{1, 2, 3, 4, 100, 101, 1 << 20} {
		row := bytes.Repeat([]byte{0, 1}, n)[:n]
		same(t, "bytes, the first one 0", len(Squeeze(nil, row)), n/2*3)
		expectSqueezed(t, "the first one 0", nil, row)
		row = bytes.Repeat([]byte{1, 0}, n)[:n]
		expectSqueezed(t, "the second one 0", nil, row)
	}
}

func TestSqueezedByChance(t *testing.T) {
	r := rand.New(rand.NewSource(1710))
	for range 4000 {
		expectSqueezed(t, "by chance", someRow(r, 10), someRow(r, 10))
	}
	for range 400 {
		row := make([]byte, r.Intn(200))
		for i := range row {
			row[i] = byte(r.Intn(2))
		}
		expectSqueezed(t, "of bytes 0 and 1", nil, row)
	}
}

// P17.8

// expectRestored: Load of Get of b makes another memory of the game, and another stack, as m and s are.
func expectRestored(t *testing.T, what string, m *memory.Memory, s *stack.Stack, b []byte) {
	t.Helper()
	n, e, _ := memory.New(m.Game())
	same(t, what+": memory.New", e, api.OK)
	n.Malloc(77)
	k := empty(t, api.MaxStack)
	st, e := Get(n, b)
	same(t, what+": Get's error", e, api.OK)
	same(t, what+": Load", Load(n, k, st), api.OK)
	sameMemory(t, what, n, m)
	sameBytes(t, what+": stack", k.Bytes(), s.Bytes())
}

// happenMuch: much by chance is done with memory and stack, behind which there is a stub on top.
func happenMuch(r *rand.Rand, m *memory.Memory, s *stack.Stack) {
	for range r.Intn(60) {
		happen(r, m, s)
	}
	entered(s)
	for s.Stub(1, 2, 3) != api.OK {
		s.Leave()
		s.Unstub()
		entered(s)
	}
}

func TestRestored(t *testing.T) {
	r := rand.New(rand.NewSource(1711))
	for range 300 {
		m, s := someMemory(t, r), someStack(t, r)
		happenMuch(r, m, s)
		wantM, wantS := m.Copy(), s.Copy()
		b, e := Put(m, s)
		same(t, "Put's error", e, api.OK)
		happenMuch(r, m, s)
		st, e := Get(m, b)
		same(t, "Get's error", e, api.OK)
		same(t, "Load", Load(m, s, st), api.OK)
		sameMemory(t, "restored", m, wantM)
		good(t, "stack.Load", wantS.Load(wantS.Bytes()))
		sameStack(t, "restored", s, wantS)
		expectRestored(t, "restored elsewhere", wantM, wantS, b)
	}
}

// TestRestoredButProtected: what is protected is not as it was, but as it is.
func TestRestoredButProtected(t *testing.T) {
	m, s := withHeap(t), called(t, 400, 2)
	b, e := Put(m, s)
	same(t, "Put's error", e, api.OK)
	want := m.Bytes()
	m.Protect(700, 10)
	colour(t, m, 0x0f)
	st, e := Get(m, b)
	same(t, "Get's error", e, api.OK)
	same(t, "Load", Load(m, s, st), api.OK)
	spread(want[700:710:710], 0x0f)
	sameBytes(t, "restored", m.Bytes(), want)
}

// TestTwoStates: each of two states that were put is there again, however they are loaded in turn.
func TestTwoStates(t *testing.T) {
	m, s := withHeap(t), called(t, 400, 2)
	one, oneM := putOf(m, s), m.Copy()
	good(t, "Free", m.Free(1024))
	colour(t, m, 0x10)
	other, otherM := putOf(m, s), m.Copy()
	for i := range 6 {
		b, want := one, oneM
		if i%2 == 1 {
			b, want = other, otherM
		}
		st, e := Get(m, b)
		same(t, "Get's error", e, api.OK)
		same(t, "Load", Load(m, s, st), api.OK)
		sameMemory(t, "in turn", m, want)
	}
}

// P17.9

func TestNoBeginningIsAState(t *testing.T) {
	r := rand.New(rand.NewSource(1712))
	type pair struct {
		m *memory.Memory
		s *stack.Stack
	}
	l := []pair{{small(t), empty(t, 9)}, {grown(t), called(t, 400, 2)}, {withHeap(t), called(t, 400, 3)}, {heapGone(t), called(t, 400, 1)}}
	for range 12 {
		m, s := someMemory(t, r), someStack(t, r)
		happenMuch(r, m, s)
		l = append(l, pair{m, s})
	}
	for _, p := range l {
		b, e := Put(p.m, p.s)
		same(t, "Put's error", e, api.OK)
		_, e = Get(p.m, b)
		same(t, "Get's error", e, api.OK)
		for n := range b {
			e := api.ErrSize
			if n < 12 {
				e = api.ErrShort
			}
			st, f := Get(p.m, b[:n])
			same(t, "Get's error of a beginning", f, e)
			noState(t, "a beginning", st)
		}
	}
}

// TestZeroValues: what these answer is open, but they end.
func TestZeroValues(t *testing.T) {
	m, s, u := new(memory.Memory), new(stack.Stack), new(Undo)
	right, pile := small(t), called(t, 400, 2)
	b, st := putOf(right, pile), stateOf(right, pile)
	for _, x := range []*memory.Memory{m, right} {
		for _, y := range []*stack.Stack{s, pile} {
			Take(x, y)
			Put(x, y)
			Load(x, y, st)
			Load(x, y, api.State{})
		}
		Get(x, b)
		Get(x, nil)
		Get(x, formOf("IFZS", chunk("IFhd"), chunk("CMem", 0), chunk("Stks")))
		Get(x, formOf("IFZS", chunk("IFhd"), chunk("UMem", 256, make([]byte, 256)), chunk("Stks")))
	}
	u.Push(st)
	u.Pop()
	u.Len()
}
