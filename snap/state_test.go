package snap

import (
	"bytes"
	"math/rand"
	"slices"
	"testing"

	"grotto/api"
	"grotto/memory"
	"grotto/stack"
)

// spoil: all that st points to, spare room included, is other bytes and blocks.
func spoil(st api.State) {
	spread(st.Ram, 0xee)
	spread(st.Stack, 0xee)
	l := st.Blocks[:cap(st.Blocks)]
	for i := range l {
		l[i] = block(0xeeee, 0xeeee)
	}
}

// roomyState: the same state, its lists with spare room that is filled.
func roomyState(st api.State) api.State {
	return api.State{Ram: roomy(st.Ram), Heap: st.Heap, Blocks: roomyBlocks(st.Blocks), Stack: roomy(st.Stack)}
}

// sameRoom: two states are alike to the end of their spare room.
func sameRoom(t *testing.T, what string, got, want api.State) {
	t.Helper()
	sameBytes(t, what+": Ram and its spare room", got.Ram[:cap(got.Ram)], want.Ram[:cap(want.Ram)])
	sameBytes(t, what+": Stack and its spare room", got.Stack[:cap(got.Stack)], want.Stack[:cap(want.Stack)])
	if !slices.Equal(got.Blocks[:cap(got.Blocks)], want.Blocks[:cap(want.Blocks)]) {
		t.Fatalf("%s: Blocks, or their spare room, are others", what)
	}
}

// wholeCopy: the same state to the end of its spare room, in memory of its own.
func wholeCopy(st api.State) api.State {
	whole := st
	whole.Ram = bytes.Clone(st.Ram[:cap(st.Ram)])[:len(st.Ram):cap(st.Ram)]
	whole.Stack = bytes.Clone(st.Stack[:cap(st.Stack)])[:len(st.Stack):cap(st.Stack)]
	whole.Blocks = slices.Clone(st.Blocks[:cap(st.Blocks)])[:len(st.Blocks):cap(st.Blocks)]
	return whole
}

// stateOf: what P17.3's words say that Take tells.
func stateOf(m *memory.Memory, s *stack.Stack) api.State {
	start, l := m.Heap()
	return api.State{Ram: m.Bytes()[m.Header().RamStart:], Heap: start, Blocks: l, Stack: s.Bytes()}
}

// expectTake: Take tells what the words say, twice, and nothing of what it tells is memory's, the stack's, or another answer's.
func expectTake(t *testing.T, what string, m *memory.Memory, s *stack.Stack) api.State {
	t.Helper()
	keptM, keptS, want := m.Copy(), s.Copy(), stateOf(m, s)
	first, e := Take(m, s)
	same(t, what+": Take's error", e, api.OK)
	second, e := Take(m, s)
	same(t, what+": Take's error, again", e, api.OK)
	sameState(t, what, first, want)
	spoil(first)
	sameState(t, what+", again", second, want)
	sameMemory(t, what, m, keptM)
	sameStack(t, what, s, keptS)
	return second
}

// expectLoad: Load answers e; with OK memory and stack are as st says, else as they were. st stays as it is, and is not kept.
func expectLoad(t *testing.T, what string, m *memory.Memory, s *stack.Stack, st api.State, e api.Errno) {
	t.Helper()
	wantM, wantS := m.Copy(), s.Copy()
	if e == api.OK {
		good(t, what+": memory.Load", wantM.Load(st.Ram, st.Heap, st.Blocks...))
		good(t, what+": stack.Load", wantS.Load(st.Stack))
	}
	given := roomyState(st)
	kept := wholeCopy(given)
	if f := Load(m, s, given); f != e {
		t.Fatalf("%s: Load = %d, not %d", what, f, e)
	}
	sameRoom(t, what+": what was handed in", given, kept)
	spoil(given)
	sameMemory(t, what, m, wantM)
	sameStack(t, what, s, wantS)
}

// withHeap: the small memory with three blocks, of which the one between is free.
func withHeap(t *testing.T) *memory.Memory {
	t.Helper()
	m := small(t)
	m.Malloc(10)
	at := m.Malloc(300)
	m.Malloc(1)
	good(t, "Free", m.Free(at))
	colour(t, m, 0x5a)
	return m
}

// heapGone: the small memory, that had grown, had a heap, and lost it.
func heapGone(t *testing.T) *memory.Memory {
	t.Helper()
	m := small(t)
	same(t, "Resize", m.Resize(1280), true)
	at := m.Malloc(700)
	colour(t, m, 0x33)
	good(t, "Free", m.Free(at))
	return m
}

// grown: the small memory, with 512 bytes more.
func grown(t *testing.T) *memory.Memory {
	t.Helper()
	m := small(t)
	same(t, "Resize", m.Resize(1536), true)
	colour(t, m, 0x77)
	return m
}

// P17.3, Take

func TestTake(t *testing.T) {
	for _, c := range []struct {
		what   string
		m      *memory.Memory
		size   int
		blocks int
	}{
		{"as new", small(t), 512, 0},
		{"grown", grown(t), 1024, 0},
		{"with a heap", withHeap(t), 512 + 512, 2},
		{"with a heap no more", heapGone(t), 768, 0},
		{"all of it may be written but the first page", made(t, 256, 256, 256), 0, 0},
	} {
		for _, frames := range []int{0, 1, 2, 20} {
			st := expectTake(t, c.what, c.m, called(t, 4096, frames))
			same(t, c.what+": bytes", len(st.Ram), c.size)
			same(t, c.what+": blocks", len(st.Blocks), c.blocks)
			same(t, c.what+": whether there is a start", st.Heap != 0, c.blocks > 0)
			same(t, c.what+": whether there is a stack", len(st.Stack) != 0, frames > 0)
		}
	}
}

func TestTakeOfAStackWithoutAFrame(t *testing.T) {
	s := called(t, 4096, 3)
	good(t, "Enter", s.Enter([]byte{4, 1, 0, 0}))
	good(t, "Leave", s.Leave())
	st := expectTake(t, "a frame that was left", small(t), s)
	same(t, "bytes", len(st.Stack), int(s.Top()))
}

func TestTakeOfAFrameWithoutAStub(t *testing.T) {
	s := called(t, 4096, 3)
	good(t, "Enter", s.Enter([]byte{4, 1, 0, 0}))
	good(t, "Push", s.Push(0x0a0b0c0d))
	st := expectTake(t, "no stub", small(t), s)
	sameBytes(t, "the last bytes", st.Stack[len(st.Stack)-4:], []byte{10, 11, 12, 13})
}

func TestTakeOfNothing(t *testing.T) {
	m, s := small(t), called(t, 400, 2)
	for _, c := range []struct {
		what string
		m    *memory.Memory
		s    *stack.Stack
	}{{"no memory", nil, s}, {"no stack", m, nil}, {"neither", nil, nil}} {
		st, e := Take(c.m, c.s)
		same(t, c.what+": Take's error", e, api.ErrNil)
		noState(t, c.what, st)
	}
}

func TestTakeByChance(t *testing.T) {
	r := rand.New(rand.NewSource(1703))
	for range 60 {
		m, s := someMemory(t, r), someStack(t, r)
		for range r.Intn(40) {
			happen(r, m, s)
		}
		expectTake(t, "by chance", m, s)
	}
}

// P17.3, Load

// states: some that small memories and stacks can be in, by what they are.
func states(t *testing.T) map[string]api.State {
	t.Helper()
	return map[string]api.State{
		"as new":              stateOf(small(t), called(t, 4096, 1)),
		"grown":               stateOf(grown(t), called(t, 4096, 6)),
		"with a heap":         stateOf(withHeap(t), called(t, 4096, 11)),
		"with a heap no more": stateOf(heapGone(t), called(t, 4096, 16)),
	}
}

func TestLoad(t *testing.T) {
	for to, st := range states(t) {
		for from, m := range map[string]*memory.Memory{"as new": small(t), "grown": grown(t), "with a heap": withHeap(t), "with a heap no more": heapGone(t)} {
			what := to + ", of one " + from
			s := called(t, 4096, 7)
			expectLoad(t, what, m, s, st, api.OK)
			sameState(t, what, stateOf(m, s), st)
			if _, ok := s.Frame(); !ok {
				t.Errorf("%s: there is no frame", what)
			}
		}
	}
}

// TestLoadGoesOn: memory and stack are used behind Load as those that the state was taken of.
func TestLoadGoesOn(t *testing.T) {
	r := rand.New(rand.NewSource(1704))
	for range 40 {
		m, s := withHeap(t), called(t, 2000, 4)
		wantM, wantS := m.Copy(), s.Copy()
		st, _ := Take(m, s)
		m.Restart()
		s.Load(nil)
		expectLoad(t, "the same again", m, s, st, api.OK)
		seed := r.Int63()
		one, other := rand.New(rand.NewSource(seed)), rand.New(rand.NewSource(seed))
		good(t, "Load", wantS.Load(st.Stack))
		for range 50 {
			happen(one, m, s)
			happen(other, wantM, wantS)
		}
		sameMemory(t, "gone on", m, wantM)
		sameStack(t, "gone on", s, wantS)
	}
}

func TestLoadOfAnEmptyStack(t *testing.T) {
	m, s := withHeap(t), empty(t, 400)
	st := stateOf(grown(t), called(t, 400, 2))
	expectLoad(t, "an empty stack is loaded", m, s, st, api.OK)
}

func TestLoadOfNothing(t *testing.T) {
	m, s := withHeap(t), called(t, 400, 2)
	st := stateOf(small(t), called(t, 400, 1))
	keptM, keptS := m.Copy(), s.Copy()
	same(t, "Load, no memory", Load(nil, s, st), api.ErrNil)
	same(t, "Load, no stack", Load(m, nil, st), api.ErrNil)
	same(t, "Load, neither", Load(nil, nil, st), api.ErrNil)
	same(t, "Load, no memory, and no state", Load(nil, s, api.State{}), api.ErrNil)
	same(t, "Load, no stack, and no state", Load(m, nil, api.State{}), api.ErrNil)
	sameMemory(t, "behind these", m, keptM)
	sameStack(t, "behind these", s, keptS)
}

// refusedByMemory: states of a small memory which it refuses, with its error; their stacks are good.
func refusedByMemory(t *testing.T) map[string]struct {
	st api.State
	e  api.Errno
} {
	t.Helper()
	type refused = struct {
		st api.State
		e  api.Errno
	}
	pile := called(t, 4096, 2).Bytes()
	ram := func(n int) []byte { return coloured(0x99, n) }
	many := blocks(api.MaxBlocks+1, 1024, 1)
	return map[string]refused{
		"none of Ram":                 {api.State{Stack: pile}, api.ErrArg},
		"a page too few":              {api.State{Ram: ram(256), Stack: pile}, api.ErrArg},
		"a byte too few":              {api.State{Ram: ram(511), Stack: pile}, api.ErrArg},
		"a byte too many":             {api.State{Ram: ram(513), Stack: pile}, api.ErrArg},
		"a page more than MaxMem":     {api.State{Ram: ram(api.MaxMem - 256), Stack: pile}, api.ErrArg},
		"blocks without a start":      {api.State{Ram: ram(1024), Blocks: blocks(1, 1024, 9), Stack: pile}, api.ErrArg},
		"a block ahead of its start":  {api.State{Ram: ram(1024), Heap: 1280, Blocks: blocks(1, 1024, 9), Stack: pile}, api.ErrArg},
		"a block beyond the end":      {api.State{Ram: ram(1024), Heap: 1024, Blocks: blocks(1, 1530, 9), Stack: pile}, api.ErrArg},
		"a block of none":             {api.State{Ram: ram(1024), Heap: 1024, Blocks: blocks(1, 1024, 0), Stack: pile}, api.ErrArg},
		"two blocks in one place":     {api.State{Ram: ram(1024), Heap: 1024, Blocks: []api.Block{block(1024, 9), block(1032, 9)}, Stack: pile}, api.ErrArg},
		"too many blocks":             {api.State{Ram: ram(1024 * 8), Heap: 1024, Blocks: many, Stack: pile}, api.ErrMany},
		"too many blocks, and no Ram": {api.State{Heap: 1024, Blocks: many, Stack: pile}, api.ErrMany},
	}
}

// refusedByStack: bytes that a stack of 400 refuses.
func refusedByStack(t *testing.T) map[string][]byte {
	t.Helper()
	pile := called(t, 4096, 2).Bytes()
	unaligned := bytes.Clone(pile)
	unaligned[len(unaligned)-1]++
	return map[string][]byte{
		"none":               nil,
		"four":               pile[:4],
		"a byte too few":     pile[:len(pile)-1],
		"a value too few":    pile[:len(pile)-4],
		"a value too many":   laid(pile, 6),
		"another frame":      unaligned,
		"only bytes 0":       coloured(0, 64),
		"more than has room": called(t, 4096, 12).Bytes(),
	}
}

func TestLoadThatIsRefused(t *testing.T) {
	right := stateOf(grown(t), called(t, 400, 1))
	for pile, b := range refusedByStack(t) {
		m, s := withHeap(t), called(t, 400, 3)
		m.Protect(600, 9)
		st := right
		st.Stack = b
		expectLoad(t, "a stack of "+pile, m, s, st, api.FatalFrame)
		for what, c := range refusedByMemory(t) {
			expectLoad(t, what, m, s, c.st, c.e)
			c.st.Stack = b
			expectLoad(t, what+", and a stack of "+pile, m, s, c.st, c.e)
		}
		expectLoad(t, "what is right", m, s, right, api.OK)
	}
}

// TestStackThatHasNoRoom: the same state is loaded by a greater stack, and refused by a smaller one.
func TestStackThatHasNoRoom(t *testing.T) {
	st := stateOf(grown(t), called(t, 4096, 3))
	n := len(st.Stack)
	expectLoad(t, "just room enough", small(t), empty(t, n), st, api.OK)
	expectLoad(t, "more room", small(t), empty(t, n+1), st, api.OK)
	expectLoad(t, "a byte too few", small(t), empty(t, n-1), st, api.FatalFrame)
}

// TestProtected: protected bytes stay as they are behind Load, and only they.
func TestProtected(t *testing.T) {
	for _, c := range []struct {
		what     string
		addr, n  uint32
		from, to uint32 // which bytes have stayed
	}{
		{"none", 600, 0, 0, 0},
		{"one", 600, 1, 600, 601},
		{"some", 600, 50, 600, 650},
		{"some below RamStart too", 500, 50, 512, 550},
		{"some beyond the end too", 1000, 5000, 1000, 1024},
		{"some that are not there", 1024, 5000, 0, 0},
		{"all", 0, top, 512, 1024},
	} {
		m, s := small(t), called(t, 400, 2)
		colour(t, m, 0xab)
		m.Protect(c.addr, c.n)
		st := api.State{Ram: coloured(0xcd, 1024), Stack: called(t, 400, 1).Bytes()}
		expectLoad(t, c.what, m, s, st, api.OK)
		want := slices.Concat(m.Game()[:512], coloured(0xcd, 1024))
		spread(want[c.from:c.to:c.to], 0xab)
		sameBytes(t, c.what, m.Bytes(), want)
		same(t, c.what+": Write", m.Write(600, 1, 1), api.OK)
	}
}

// TestProtectedStays: what is protected is so behind a Load, too, and behind one that is refused.
func TestProtectedStays(t *testing.T) {
	m, s := small(t), called(t, 400, 2)
	colour(t, m, 0xab)
	m.Protect(600, 4)
	st := api.State{Ram: coloured(0xcd, 512), Stack: called(t, 400, 1).Bytes()}
	expectLoad(t, "refused", m, s, api.State{Ram: st.Ram}, api.FatalFrame)
	for range 2 {
		expectLoad(t, "loaded", m, s, st, api.OK)
		x, _ := m.Read(600, 4)
		same(t, "the protected number", x, uint32(0xabababab))
		x, _ = m.Read(604, 4)
		same(t, "the number behind it", x, uint32(0xcdcdcdcd))
	}
}

// TestLoadByChance: of states that happen, and are then spoilt or not.
func TestLoadByChance(t *testing.T) {
	r := rand.New(rand.NewSource(1705))
	told := map[api.Errno]int{}
	for range 300 {
		m, s := someMemory(t, r), someStack(t, r)
		n, k := m.Copy(), s.Copy()
		for range r.Intn(30) {
			happen(r, m, s)
			happen(r, n, k)
		}
		entered(k)
		k.Stub(1, 2, 3)
		st := stateOf(n, k)
		spoilSome(r, &st)
		e := m.Copy().Load(st.Ram, st.Heap, st.Blocks...)
		if e == api.OK {
			e = s.Copy().Load(st.Stack)
		}
		told[e]++
		expectLoad(t, "by chance", m, s, st, e)
	}
	if told[api.OK] < 50 || told[api.ErrArg] < 20 || told[api.FatalFrame] < 20 {
		t.Errorf("too few of a kind: %v", told)
	}
}

// spoilSome: perhaps something of st is not as it was.
func spoilSome(r *rand.Rand, st *api.State) {
	switch r.Intn(8) {
	case 0:
		st.Ram = st.Ram[:r.Intn(len(st.Ram)+1)]
	case 1:
		st.Ram = append(st.Ram, make([]byte, 256)...)
	case 2:
		st.Heap += uint32(r.Intn(3))
	case 3:
		st.Blocks = append(st.Blocks, block(uint32(r.Intn(4000)), 8))
	case 4:
		st.Stack = st.Stack[:r.Intn(len(st.Stack)+1)]
	case 5:
		st.Stack[len(st.Stack)-1-r.Intn(4)]++
	}
}
