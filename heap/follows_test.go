package heap

import (
	"math/rand"
	"slices"
	"testing"

	"grotto/api"
)

// P8.6

func TestApart(t *testing.T) {
	r := rand.New(rand.NewSource(86))
	for range 1500 {
		h, m := someHeap(r)
		for range 40 {
			h.Malloc(someLen(r, m), someEnd(r, m))
			m.start, m.end, m.blocks = int64(h.Start()), int64(h.End()), h.Blocks()
			apart(t, h, m.most)
			if r.Intn(3) == 0 {
				h.Free(someBlock(r, m))
				apart(t, h, m.most)
			}
			if r.Intn(20) == 0 && m.most >= 1024 {
				start, end, l := someLoad(r, uint32(m.most))
				h.Load(start, end, l...)
				apart(t, h, m.most)
			}
		}
	}
}

// apart: no two blocks of h touch one byte, and all lie where they may.
func apart(t *testing.T, h *Heap, most int64) {
	t.Helper()
	behind := int64(h.Start())
	for _, b := range h.Blocks() {
		from, to := reach(b)
		if from < behind || to <= from {
			t.Fatalf("a block of %d to %d, with %d not below what lies ahead: %v", from, to, behind, short(h.Blocks()))
		}
		behind = to
	}
	end := int64(h.End())
	if behind > end || end > most || h.Start()%256 != 0 || end%256 != 0 {
		t.Fatalf("blocks to %d, start %d, end %d, most %d", behind, h.Start(), end, most)
	}
}

func TestApartByteByByte(t *testing.T) {
	// So few bytes that each of them can be looked at.
	r := rand.New(rand.NewSource(866))
	for range 300 {
		const most = 1536
		var owner [most]uint32
		h := New(most)
		for range 60 {
			n := uint32(1 + r.Intn(someOf(r, 8, 80, 500)))
			if at, ok := h.Malloc(n, 512); ok {
				paint(t, owner[at:at+n], 0, at)
			}
			if l := h.Blocks(); len(l) > 0 && r.Intn(2) == 0 {
				b := l[r.Intn(len(l))]
				h.Free(b.Addr)
				paint(t, owner[b.Addr:b.Addr+b.Len], b.Addr, 0)
			}
		}
	}
}

// paint: bytes that were all one's are another's.
func paint(t *testing.T, owner []uint32, was, is uint32) {
	t.Helper()
	for i := range owner {
		if owner[i] != was {
			t.Fatalf("a byte of %d is taken by %d", was, owner[i])
		}
		owner[i] = is
	}
}

// P8.7

func TestFirst(t *testing.T) {
	r := rand.New(rand.NewSource(87))
	laid := 0
	for range 400 {
		h := New(4096)
		for range 60 {
			ahead := h.Blocks()
			n := uint32(1 + r.Intn(someOf(r, 8, 80, 500)))
			at, ok := h.Malloc(n, 1024)
			m := model{blocks: ahead}
			for lesser := uint32(1024); ok && lesser < at; lesser++ {
				if m.isFree(int64(lesser), int64(n)) {
					t.Fatalf("%d bytes are laid at %d, and %d would have done: %v", n, at, lesser, ahead)
				}
			}
			if ok {
				laid++
			}
			// Where none is laid no place up to most is free.
			for lesser := uint32(1024); !ok && lesser+n <= 4096; lesser++ {
				if m.isFree(int64(lesser), int64(n)) {
					t.Fatalf("%d bytes are laid nowhere, and %d would have done: %v", n, lesser, ahead)
				}
			}
			if l := h.Blocks(); len(l) > 0 && r.Intn(2) == 0 {
				h.Free(l[r.Intn(len(l))].Addr)
			}
		}
	}
	if laid < 5000 {
		t.Errorf("only %d blocks were laid", laid)
	}
}

// P8.8

func TestBack(t *testing.T) {
	r := rand.New(rand.NewSource(88))
	back := 0
	for range 600 {
		h, m := someHeap(r)
		for range 30 {
			step(t, r, h, m)
			was := h.Blocks()
			if at, ok := h.Malloc(someLen(r, m), someEnd(r, m)); ok {
				expectFree(t, h, at, api.OK)
				back++
			}
			if !slices.Equal(h.Blocks(), was) {
				t.Fatalf("what is freed at once leaves %v of %v", short(h.Blocks()), short(was))
			}
			// The end may have grown, and it stays.
			m.start, m.end = int64(h.Start()), int64(h.End())
		}
		l := h.Blocks()
		r.Shuffle(len(l), func(i, j int) { l[i], l[j] = l[j], l[i] })
		for i, b := range l {
			if !h.Active() {
				t.Fatalf("not active, with %d blocks", len(l)-i)
			}
			expectFree(t, h, b.Addr, api.OK)
		}
		expectHeap(t, "all freed", h, 0, 0)
	}
	if back < 3000 {
		t.Errorf("only %d blocks were freed at once", back)
	}
}

func TestBackOfMany(t *testing.T) {
	h := New(1 << 20)
	for i := range uint32(4096) {
		h.Malloc(1+i%200, 256)
	}
	l := h.Blocks()
	if len(l) != 4096 {
		t.Fatalf("%d blocks", len(l))
	}
	rand.New(rand.NewSource(888)).Shuffle(len(l), func(i, j int) { l[i], l[j] = l[j], l[i] })
	for _, b := range l {
		if !h.Active() || h.Free(b.Addr) != api.OK {
			t.Fatalf("the block at %d is not freed", b.Addr)
		}
	}
	expectHeap(t, "all freed", h, 0, 0)
}

// P8.9

func TestLoadOfWhatIsTold(t *testing.T) {
	r := rand.New(rand.NewSource(89))
	for range 1500 {
		h, m := someHeap(r)
		for range r.Intn(30) {
			step(t, r, h, m)
		}
		again := New(uint32(m.most))
		if r.Intn(2) == 0 {
			again.Malloc(77, 256)
		}
		expectLoad(t, "what is told", again, api.OK, h.Start(), h.End(), h.Blocks()...)
		expectLoad(t, "what it tells itself", h, api.OK, h.Start(), h.End(), h.Blocks()...)
		n := *m
		for range 6 {
			same := r.Int63()
			step(t, rand.New(rand.NewSource(same)), h, m)
			step(t, rand.New(rand.NewSource(same)), again, &n)
			expectHeap(t, "gone on with", again, h.Start(), h.End(), h.Blocks()...)
		}
	}
}

func TestLoadOfWhatIsToldOfMany(t *testing.T) {
	h := New(1 << 20)
	for range 4096 {
		h.Malloc(100, 512)
	}
	for _, b := range h.Blocks() {
		if b.Addr%7 == 0 {
			h.Free(b.Addr)
		}
	}
	expectLoad(t, "many", New(1<<20), api.OK, h.Start(), h.End(), h.Blocks()...)
}
