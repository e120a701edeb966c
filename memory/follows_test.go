package memory

import (
	"bytes"
	"math/rand"
	"testing"

	"grotto/api"
)

// P9.7

func TestWhatIsWrittenIsRead(t *testing.T) {
	m := made(t, 256, 512, 1024)
	r := rand.New(rand.NewSource(97))
	written := map[uint32]byte{}
	for range 30000 {
		addr, n, x := uint32(r.Intn(1100)), someOf(r, 1, 2, 4), r.Uint32()
		if m.Write(addr, n, x) == api.OK {
			for i := range n {
				written[addr+uint32(i)] = byte(x >> (8 * (n - 1 - i)))
			}
			mask := uint32(1<<(8*n) - 1)
			if y, e := m.Read(addr, n); y != x&mask || e != api.OK {
				t.Fatalf("Read(%d, %d) = %#x, %d; %#x was written", addr, n, y, e, x)
			}
		}
	}
	if len(written) != 1024-256 {
		t.Errorf("%d bytes were written", len(written))
	}
	for addr, c := range written {
		if x, e := m.Read(addr, 1); x != uint32(c) || e != api.OK {
			t.Errorf("Read(%d, 1) = %#x, %d; %#x was written", addr, x, e, c)
		}
	}
}

func TestBytesBelowRamStartStay(t *testing.T) {
	r := rand.New(rand.NewSource(977))
	for range 400 {
		m, s := someMemory(t, r)
		for range 60 {
			call, _ := step(t, r, m, s)
			b := m.Bytes()
			n := min(len(b), int(m.Header().RamStart))
			if !bytes.Equal(b[:n], s.game[:n]) {
				t.Fatalf("behind %s the byte %d is another one", call, firstOther(b[:n], s.game[:n]))
			}
		}
	}
}

// P9.8

func TestRefusedChangesNothing(t *testing.T) {
	r := rand.New(rand.NewSource(98))
	refused := 0
	for range 500 {
		m, s := someMemory(t, r)
		for range 12 {
			step(t, r, m, s)
		}
		for range 12 {
			step(t, r, m, s)
			c := m.Copy()
			if !refusedByChance(r, c, s) {
				continue
			}
			refused++
			expectSame(t, "what was refused", c, m)
			// And the protection is as it was.
			was := m.Copy()
			was.Restart()
			c.Restart()
			expectSame(t, "what was refused, begun again", c, was)
		}
	}
	if refused < 2000 {
		t.Errorf("only %d calls were refused", refused)
	}
}

// refusedByChance: one call by chance on m; was it refused?
func refusedByChance(r *rand.Rand, m *Memory, s *model) bool {
	addr, to := someAddr(r, s), someAddr(r, s)
	n := someLen(r, s, addr)
	switch r.Intn(7) {
	case 0:
		return m.Write(addr, someOf(r, 1, 2, 4, 3), top) != api.OK
	case 1:
		return m.Fill(addr, n) != api.OK
	case 2:
		return m.Move(n, addr, to) != api.OK
	case 3:
		return !m.Resize(addr)
	case 4:
		return m.Malloc(n) == 0
	case 5:
		return m.Free(addr) != api.OK
	}
	ram, start, l := someLoad(r, s)
	return m.Load(ram, start, l...) != api.OK
}

// P9.9

func TestLoadOfWhatIsTold(t *testing.T) {
	r := rand.New(rand.NewSource(99))
	loaded := 0
	for range 600 {
		m, s := someMemory(t, r)
		for range r.Intn(40) {
			step(t, r, m, s)
		}
		// A heap that began below EndMem may have left less than a game has.
		if m.Size() < m.Header().EndMem {
			continue
		}
		loaded++
		again, _, _ := New(s.game)
		other := newModel(s.head, s.game)
		for range r.Intn(20) {
			step(t, r, again, other)
		}
		again.Protect(0, 0)
		start, l := m.Heap()
		if e := again.Load(m.Bytes()[m.Header().RamStart:], start, l...); e != api.OK {
			t.Fatalf("Load of what is told = %d", e)
		}
		expectSame(t, "what is told, loaded", again, m)
		was := m.Copy()
		if e := m.Load(m.Bytes()[m.Header().RamStart:], start, l...); e != api.OK {
			t.Fatalf("Load of what it tells itself = %d", e)
		}
		expectSame(t, "what it tells itself, loaded", m, was)
		// And they go on alike.
		again.Protect(uint32(s.from), uint32(s.to-s.from))
		goOnAlike(t, r, m, again, s)
	}
	if loaded < 400 {
		t.Errorf("only %d memories were loaded", loaded)
	}
}

// goOnAlike: both memories, which are the same as s, come to the same by the same calls.
func goOnAlike(t *testing.T, r *rand.Rand, m, again *Memory, s *model) {
	t.Helper()
	c := s.copied()
	for range 8 {
		seed := r.Int63()
		step(t, rand.New(rand.NewSource(seed)), m, s)
		step(t, rand.New(rand.NewSource(seed)), again, c)
		expectSame(t, "gone on with", again, m)
	}
}
