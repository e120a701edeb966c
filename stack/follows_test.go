package stack

import (
	"math/rand"
	"slices"
	"testing"

	"grotto/api"
)

func TestCallsByChance(t *testing.T) {
	r := rand.New(rand.NewSource(10))
	seen := map[string][2]int{}
	for range 1500 {
		s, m := someStack(t, r)
		for range 120 {
			what, good := step(t, r, s, m)
			n := seen[what]
			if good {
				n[1]++
			} else {
				n[0]++
			}
			seen[what] = n
		}
	}
	for _, what := range []string{"Enter", "Leave", "Args", "Local", "SetLocal", "Push", "Pop", "Peek", "Swap", "Roll", "Dup", "Stub", "Unstub", "Throw", "Load"} {
		if n := seen[what]; n[0] < 200 || n[1] < 200 {
			t.Errorf("%s: %d refused, %d done", what, n[0], n[1])
		}
	}
}

// deep: a stack by chance with a current frame, and room for more.
func deep(t *testing.T, r *rand.Rand) (*Stack, *model) {
	t.Helper()
	for {
		s, m := someStack(t, r)
		for range r.Intn(80) {
			step(t, r, s, m)
		}
		if m.entered && m.top()+100 < m.size {
			return s, m
		}
	}
}

// P10.10

func TestLastInFirstOut(t *testing.T) {
	r := rand.New(rand.NewSource(1010))
	for range 300 {
		s, m := deep(t, r)
		was := s.Copy()
		var l []uint32
		for range r.Intn((m.size-m.top())/4 + 1) {
			x := r.Uint32()
			pushed(t, s, x)
			l = append(l, x)
		}
		same(t, "Count", s.Count(), was.Count()+len(l))
		for _, want := range slices.Backward(l) {
			x, e := s.Pop()
			same(t, "Pop", x, want)
			good(t, "Pop", e)
		}
		expectSame(t, "popped", s, was)
	}
}

// P10.11

func TestRolledBack(t *testing.T) {
	r := rand.New(rand.NewSource(1011))
	rolled := 0
	for range 500 {
		s, _ := deep(t, r)
		n := uint32(r.Intn(s.Count() + 1))
		k := someOf(r, uint32(r.Intn(20)), r.Uint32(), 1<<31-1, 1<<31+1, top32)
		was := s.Copy()
		good(t, "Roll", s.Roll(n, k))
		if !slices.Equal(s.Bytes(), was.Bytes()) {
			rolled++
		}
		good(t, "Roll", s.Roll(n, -k))
		expectSame(t, "rolled back", s, was)
		if n > 0 {
			// So many times by 1 as there are values leads round.
			for range n {
				good(t, "Roll", s.Roll(n, 1))
			}
			expectSame(t, "rolled round", s, was)
		}
	}
	if rolled < 100 {
		t.Errorf("%d of them were rolled", rolled)
	}
}

// P10.12

func TestCallAndBack(t *testing.T) {
	r := rand.New(rand.NewSource(1012))
	for range 500 {
		s, _ := deep(t, r)
		was := s.Copy()
		kind, addr, pc := r.Uint32(), r.Uint32(), r.Uint32()
		good(t, "Stub", s.Stub(kind, addr, pc))
		if e := s.Enter([]byte{1, byte(1 + r.Intn(9)), 4, 3, 0, 0}); e != api.OK {
			t.Fatalf("Enter = %d", e)
		}
		s.Args(r.Uint32(), r.Uint32(), r.Uint32())
		for range r.Intn(30) {
			s.Push(r.Uint32())
		}
		s.Roll(3, r.Uint32())
		good(t, "Leave", s.Leave())
		expectUnstub(t, s, kind, addr, pc)
		expectSame(t, "back", s, was)
	}
}

// P10.13

func TestThrowFromWithinAnyCalls(t *testing.T) {
	r := rand.New(rand.NewSource(1013))
	for range 500 {
		s, _ := deep(t, r)
		good(t, "Stub", s.Stub(r.Uint32(), r.Uint32(), r.Uint32()))
		was, token := s.Copy(), s.Top()
		for range r.Intn(12) {
			s.Enter([]byte{2, byte(1 + r.Intn(4)), 0, 0})
			for range r.Intn(5) {
				s.Push(r.Uint32())
			}
			s.Stub(1, 2, 3)
		}
		good(t, "Throw", s.Throw(token))
		expectSame(t, "thrown", s, was)
		a, b, c, e := was.Unstub()
		good(t, "Unstub", e)
		expectUnstub(t, s, a, b, c)
		expectSame(t, "unstubbed", s, was)
	}
}

// P10.14

func TestLoadOfBytes(t *testing.T) {
	r := rand.New(rand.NewSource(1014))
	for range 500 {
		s, m := deep(t, r)
		if e := s.Stub(r.Uint32(), r.Uint32(), r.Uint32()); e != api.OK {
			t.Fatalf("Stub = %d", e)
		}
		u, _ := deep(t, r)
		if int(s.Top()) > u.size {
			u = made(t, m.size)
		}
		good(t, "Load", u.Load(s.Bytes()))
		expectSame(t, "loaded", u, s)
		// They go on alike.
		for {
			a, b, c, e := s.Unstub()
			x, y, z, f := u.Unstub()
			same(t, "Unstub", [3]uint32{x, y, z}, [3]uint32{a, b, c})
			same(t, "Unstub", f, e)
			same(t, "Count", u.Count(), s.Count())
			expectSame(t, "back", u, s)
			if s.Leave() != api.OK {
				break
			}
			good(t, "Leave", u.Leave())
		}
	}
}

// P10.15

func TestTopIsNeverAboveTheSize(t *testing.T) {
	r := rand.New(rand.NewSource(1015))
	full := 0
	for range 600 {
		s, m := someStack(t, r)
		for range 150 {
			what, _ := step(t, r, s, m)
			if int(s.Top()) > m.size || s.Top()%4 != 0 {
				t.Fatalf("behind %s: Top() = %d of %d", what, s.Top(), m.size)
			}
			if int(s.Top())+4 > m.size {
				full++
			}
		}
	}
	if full < 100 {
		t.Errorf("%d times it was full", full)
	}
}

func TestRefusedChangesNothing(t *testing.T) {
	r := rand.New(rand.NewSource(10015))
	refused := 0
	for range 600 {
		s, m := someStack(t, r)
		for range 100 {
			was, count := s.Copy(), s.Count()
			before := m.copied()
			what, good := step(t, r, s, m)
			if good {
				continue
			}
			refused++
			if what == "Enter" && int(s.Top()) == before.top()+16 {
				continue // a stub was laid ahead of it
			}
			expectSame(t, "behind "+what+", refused", s, was)
			same(t, "Count", s.Count(), count)
		}
	}
	if refused < 5000 {
		t.Errorf("%d were refused", refused)
	}
}
