package heap

import (
	"math/rand"
	"slices"
	"testing"

	"grotto/api"
)

// P8.1

func TestNew(t *testing.T) {
	for _, most := range []uint32{0, 1, 255, 256, 257, 4096, 1 << 20, 1 << 31, top - 255, top} {
		h := New(most)
		if h == nil {
			t.Fatalf("New(%d) is nil", most)
		}
		expectHeap(t, "new", h, 0, 0)
	}
}

func TestNewBoundsTheEnd(t *testing.T) {
	// Whole pages up to most, whatever is beyond the last one.
	for _, c := range []struct {
		most  uint32
		pages uint32
	}{{512, 1}, {513, 1}, {767, 1}, {768, 2}, {1000, 2}, {1023, 2}, {1024, 3}, {1025, 3}, {1 << 20, 4095}, {1<<31 + 255, 1<<23 - 1}, {top - 256, 1<<24 - 3}, {top - 255, 1<<24 - 2}, {top, 1<<24 - 2}} {
		h := New(c.most)
		expectNoBlock(t, h, 256*c.pages+1, 256)
		expectBlock(t, h, 256*c.pages, 256, 256, 256+256*c.pages)
		expectNoBlock(t, h, 1, 256)
		expectLoad(t, "just most", h, api.OK, 256, 256+256*c.pages, block(256, 1))
		expectLoad(t, "a page above most", h, api.ErrArg, 256, 512+256*c.pages, block(256, 1))
	}
	for _, most := range []uint32{0, 1, 255, 256, 257, 511} {
		h := New(most)
		for _, end := range []uint32{0, 1, 255, 256, 511, 512, top - 255} {
			expectNoBlock(t, h, 1, end)
		}
	}
}

func TestBlocksRise(t *testing.T) {
	h := New(1 << 20)
	for i := range uint32(9) {
		expectBlock(t, h, 100, 256, 256+100*i, max(h.End(), (256+100*(i+1)+255)/256*256))
	}
	for _, i := range []uint32{6, 1, 3, 0, 8} {
		expectFree(t, h, 256+100*i, api.OK)
	}
	expectHeap(t, "every other one", h, 256, 1280, block(456, 100), block(656, 100), block(756, 100), block(956, 100))
	expectBlock(t, h, 200, 0, 256, 1280)
	expectBlock(t, h, 300, 0, 1056, 1536)
	expectBlock(t, h, 7, 0, 556, 1536)
	expectHeap(t, "some laid between", h, 256, 1536, block(256, 200), block(456, 100), block(556, 7), block(656, 100), block(756, 100), block(956, 100), block(1056, 300))
}

// P8.2

func TestExample(t *testing.T) {
	h := New(4096)
	expectBlock(t, h, 100, 1024, 1024, 1280)
	expectBlock(t, h, 300, 0, 1124, 1536)
	expectFree(t, h, 1024, api.OK)
	expectBlock(t, h, 50, 0, 1024, 1536)
	expectBlock(t, h, 60, 0, 1424, 1536)
	expectNoBlock(t, h, 4000, 0)
	expectHeap(t, "the example", h, 1024, 1536, block(1024, 50), block(1124, 300), block(1424, 60))
	for _, addr := range []uint32{1124, 1024, 1424} {
		expectFree(t, h, addr, api.OK)
	}
	expectHeap(t, "all are freed", h, 0, 0)
}

func TestMallocNothing(t *testing.T) {
	h := New(4096)
	for _, end := range []uint32{0, 1, 256, 1024, 4096, top} {
		expectNoBlock(t, h, 0, end)
	}
	expectBlock(t, h, 10, 256, 256, 512)
	for _, end := range []uint32{0, 1, 256, 512, 4096, top} {
		expectNoBlock(t, h, 0, end)
	}
}

func TestMallocEndOfNone(t *testing.T) {
	for _, most := range []uint32{4096, 4097, 4351} {
		h := New(most)
		for _, end := range []uint32{0, 1, 2, 128, 255, 257, 511, 513, 1000, 4095, 4096, 4097, 4352, 4608, 1 << 20, 1 << 31, 1<<31 + 256, top - 255, top} {
			expectNoBlock(t, h, 1, end)
		}
		for _, end := range []uint32{256, 512, 1024, 3584, 3840} {
			h = New(most)
			expectBlock(t, h, 1, end, end, end+256)
			expectHeap(t, "begun", h, end, end+256, block(end, 1))
		}
	}
}

func TestMallocEndOfSome(t *testing.T) {
	// An active heap begins where it did, whatever is handed in.
	for _, end := range []uint32{0, 1, 255, 256, 512, 768, 1024, 4096, 4352, 1 << 31, top} {
		h := New(4096)
		expectBlock(t, h, 10, 512, 512, 768)
		expectBlock(t, h, 20, end, 522, 768)
		expectBlock(t, h, 300, end, 542, 1024)
		expectFree(t, h, 512, api.OK)
		expectBlock(t, h, 10, end, 512, 1024)
		expectHeap(t, "any end", h, 512, 1024, block(512, 10), block(522, 20), block(542, 300))
	}
}

func TestMallocGap(t *testing.T) {
	// Gaps of 10 at the start, of 20, of 10 again, of 30; 12 behind all.
	begin := func() *Heap {
		return loaded(t, 4096, 256, 512, block(266, 30), block(316, 84), block(410, 40), block(480, 20))
	}
	for _, c := range []struct{ n, addr, end uint32 }{
		{1, 256, 512}, {9, 256, 512}, {10, 256, 512},
		{11, 296, 512}, {19, 296, 512}, {20, 296, 512},
		{21, 450, 512}, {29, 450, 512}, {30, 450, 512},
		{31, 500, 768}, {268, 500, 768}, {269, 500, 1024}, {4096 - 500, 500, 4096},
	} {
		expectBlock(t, begin(), c.n, 0, c.addr, c.end)
	}
	expectNoBlock(t, begin(), 4096-499, 0)
	h := begin()
	expectBlock(t, h, 10, 0, 256, 512)
	expectBlock(t, h, 20, 0, 296, 512)
	expectBlock(t, h, 10, 0, 400, 512)
	expectBlock(t, h, 1, 0, 450, 512)
	expectBlock(t, h, 30, 0, 500, 768)
	expectBlock(t, h, 29, 0, 451, 768)
	expectBlock(t, h, 1, 0, 530, 768)
}

func TestMallocJustAtTheEnd(t *testing.T) {
	for n := uint32(1); n <= 1100; n++ {
		h := loaded(t, 4096, 512, 1280, block(700, 80))
		switch {
		case n <= 188:
			expectBlock(t, h, n, 0, 512, 1280)
		case n <= 500:
			expectBlock(t, h, n, 0, 780, 1280)
		case n <= 756:
			expectBlock(t, h, n, 0, 780, 1536)
		case n <= 1012:
			expectBlock(t, h, n, 0, 780, 1792)
		default:
			expectBlock(t, h, n, 0, 780, 2048)
		}
	}
}

func TestMallocJustMost(t *testing.T) {
	for _, most := range []uint32{2048, 2049, 2303} {
		h := loaded(t, most, 512, 1024, block(900, 20))
		expectNoBlock(t, h, 2048-920+1, 0)
		expectNoBlock(t, h, 2048-920+256, 0)
		expectBlock(t, h, 2048-920, 0, 920, 2048)
		expectNoBlock(t, h, 389, 0)
		expectBlock(t, h, 388, 0, 512, 2048)
		expectNoBlock(t, h, 1, 0)
		h = New(most)
		expectNoBlock(t, h, 2048-512+1, 512)
		expectHeap(t, "a first block that is too great", h, 0, 0)
		expectBlock(t, h, 2048-512, 512, 512, 2048)
	}
}

func TestMallocNearTheTop(t *testing.T) {
	h := New(top)
	for _, n := range []uint32{257, 512, 513, 1 << 31, top - 511, top - 510, top} {
		expectNoBlock(t, h, n, top-511)
	}
	for _, end := range []uint32{256, 1 << 31, top - 255} {
		expectNoBlock(t, h, top, end)
		expectNoBlock(t, h, top-254, end)
	}
	expectNoBlock(t, h, 1, top-255)
	expectBlock(t, h, 255, top-511, top-511, top-255)
	expectNoBlock(t, h, 2, 0)
	expectBlock(t, h, 1, 0, top-256, top-255)
	expectNoBlock(t, h, 1, 0)

	// A gap of nearly all, and lengths that would wrap round behind it.
	h = loaded(t, top, 256, top-255, block(top-511, 200))
	for _, n := range []uint32{top - 766, top - 511, top - 255, top} {
		expectNoBlock(t, h, n, 0)
	}
	expectBlock(t, h, top-767, 0, 256, top-255)
	expectNoBlock(t, h, 57, 0)
	expectBlock(t, h, 56, 0, top-311, top-255)

	// Behind a block that reaches beyond the half.
	h = loaded(t, 1<<31+1024, 256, 1<<31+512, block(256, 1<<31))
	expectNoBlock(t, h, 1<<31, 0)
	expectNoBlock(t, h, 769, 0)
	expectBlock(t, h, 257, 0, 1<<31+256, 1<<31+768)
	expectBlock(t, h, 511, 0, 1<<31+513, 1<<31+1024)
}

func TestMallocMany(t *testing.T) {
	h := New(1 << 20)
	for i := range uint32(4096) {
		if at, ok := h.Malloc(2, 512); at != 512+2*i || !ok {
			t.Fatalf("block %d: %d, %t", i, at, ok)
		}
	}
	expectHeap(t, "MaxBlocks", h, 512, 512+8192, row(4096, 512, 2)...)
	expectNoBlock(t, h, 1, 512)
	expectNoBlock(t, h, 2, 0)
	expectFree(t, h, 512+2*700, api.OK)
	expectNoBlock(t, h, 0, 0)
	expectBlock(t, h, 3, 0, 512+8192, 512+8192+256)
	expectNoBlock(t, h, 2, 0)
	expectFree(t, h, 512, api.OK)
	expectBlock(t, h, 1, 0, 512, 512+8192+256)
	expectNoBlock(t, h, 1, 0)
	// Full by Load.
	h = loaded(t, 1<<20, 256, 1<<20, row(4096, 300, 1)...)
	expectNoBlock(t, h, 1, 0)
	expectFree(t, h, 300+4095, api.OK)
	expectBlock(t, h, 44, 0, 256, 1<<20)
	expectNoBlock(t, h, 1, 0)
}

func TestCallsByChance(t *testing.T) {
	r := rand.New(rand.NewSource(82))
	changes, most := 0, 0
	for range 1500 {
		h, m := someHeap(r)
		for range 60 {
			if step(t, r, h, m) {
				changes++
			}
			most = max(most, len(m.blocks))
		}
	}
	if changes < 20000 || most < 20 {
		t.Errorf("only %d calls changed a heap, and the most blocks were %d", changes, most)
	}
}

// P8.3

func TestFreeNone(t *testing.T) {
	h := New(4096)
	for _, addr := range []uint32{0, 1, 256, 4096, top} {
		expectFree(t, h, addr, api.ErrNone)
	}
	h = loaded(t, 4096, 256, 1024, block(300, 20), block(320, 10), block(400, 1))
	for _, addr := range []uint32{0, 1, 255, 256, 299, 301, 310, 319, 321, 329, 330, 399, 401, 1023, 1024, 4096, 1<<31 + 300, top} {
		expectFree(t, h, addr, api.ErrNone)
	}
	expectFree(t, h, 320, api.OK)
	expectFree(t, h, 320, api.ErrNone)
	expectHeap(t, "one freed", h, 256, 1024, block(300, 20), block(400, 1))
}

func TestFreeKeepsTheEnd(t *testing.T) {
	l := []api.Block{block(300, 20), block(320, 300), block(700, 600), block(1300, 1)}
	for last := range l {
		h := loaded(t, 4096, 256, 1536, l...)
		left := slices.Clone(l)
		for i, b := range l {
			if i == last {
				continue
			}
			expectFree(t, h, b.Addr, api.OK)
			left = slices.DeleteFunc(left, func(c api.Block) bool { return c == b })
			expectHeap(t, "another one is there", h, 256, 1536, left...)
		}
		expectFree(t, h, l[last].Addr, api.OK)
		expectHeap(t, "the last one freed", h, 0, 0)
		expectFree(t, h, l[last].Addr, api.ErrNone)
	}
	// The room behind a block that is freed is not given back.
	h := New(4096)
	expectBlock(t, h, 10, 256, 256, 512)
	expectBlock(t, h, 3000, 0, 266, 3328)
	expectFree(t, h, 266, api.OK)
	expectBlock(t, h, 1, 0, 266, 3328)
	expectBlock(t, h, 3061, 0, 267, 3328)
}

func TestFreeAndUseAgain(t *testing.T) {
	h := New(4096)
	for _, end := range []uint32{1024, 2048, 256, 3840, 1024, 512} {
		expectNoBlock(t, h, 1, end+1)
		expectBlock(t, h, 200, end, end, end+256)
		if end < 3840 {
			expectBlock(t, h, 200, 1, end+200, end+512)
			expectFree(t, h, end+200, api.OK)
		}
		expectFree(t, h, end, api.OK)
		expectHeap(t, "the last one freed", h, 0, 0)
		expectNoBlock(t, h, 1, 0)
		expectNoBlock(t, h, 4097-end, end)
	}
}

// P8.4

func TestLoad(t *testing.T) {
	for _, c := range []struct {
		what             string
		most, start, end uint32
		l                []api.Block
		e                api.Errno
	}{
		{"nothing", 4096, 0, 0, nil, api.OK},
		{"nothing, of a heap that may have none", 0, 0, 0, nil, api.OK},
		{"nothing, with a start", 4096, 256, 0, nil, api.ErrArg},
		{"nothing, with an end", 4096, 0, 256, nil, api.ErrArg},
		{"nothing, with an end that is no page", 4096, 0, 1, nil, api.ErrArg},
		{"nothing, with both", 4096, 256, 512, nil, api.ErrArg},
		{"nothing, with both alike", 4096, 256, 256, nil, api.ErrArg},
		{"one that fills it", 4096, 256, 512, []api.Block{block(256, 256)}, api.OK},
		{"one that touches neither bound", 4096, 256, 512, []api.Block{block(300, 10)}, api.OK},
		{"one that ends at the end", 4096, 256, 512, []api.Block{block(511, 1)}, api.OK},
		{"a byte beyond the end", 4096, 256, 512, []api.Block{block(511, 2)}, api.ErrArg},
		{"a byte beyond the end, from the start on", 4096, 256, 512, []api.Block{block(256, 257)}, api.ErrArg},
		{"one that begins at the end", 4096, 256, 512, []api.Block{block(512, 1)}, api.ErrArg},
		{"one behind the end", 4096, 256, 512, []api.Block{block(600, 1)}, api.ErrArg},
		{"one ahead of the start", 4096, 256, 512, []api.Block{block(255, 1)}, api.ErrArg},
		{"one over the start", 4096, 256, 512, []api.Block{block(255, 2)}, api.ErrArg},
		{"one at 0", 4096, 256, 512, []api.Block{block(0, 300)}, api.ErrArg},
		{"one without bytes", 4096, 256, 512, []api.Block{block(256, 0)}, api.ErrArg},
		{"one without bytes at the end", 4096, 256, 512, []api.Block{block(512, 0)}, api.ErrArg},
		{"one without bytes between others", 4096, 256, 512, []api.Block{block(256, 4), block(260, 0), block(260, 4)}, api.ErrArg},
		{"a last one without bytes", 4096, 256, 512, []api.Block{block(256, 256), block(512, 0)}, api.ErrArg},
		{"two that meet", 4096, 256, 512, []api.Block{block(256, 1), block(257, 255)}, api.OK},
		{"two that touch one byte", 4096, 256, 512, []api.Block{block(256, 2), block(257, 255)}, api.ErrArg},
		{"two that are one", 4096, 256, 512, []api.Block{block(256, 2), block(256, 2)}, api.ErrArg},
		{"two, the second within the first", 4096, 256, 512, []api.Block{block(256, 9), block(258, 2)}, api.ErrArg},
		{"two that fall", 4096, 256, 512, []api.Block{block(300, 2), block(256, 2)}, api.ErrArg},
		{"the third touches the first alone", 4096, 256, 512, []api.Block{block(256, 20), block(300, 2), block(270, 2)}, api.ErrArg},
		{"the third beyond the end", 4096, 256, 512, []api.Block{block(256, 20), block(300, 2), block(500, 13)}, api.ErrArg},
		{"gaps, and pages to spare", 4096, 256, 4096, []api.Block{block(300, 20), block(900, 2), block(902, 13)}, api.OK},
		{"a start at 0", 4096, 0, 512, []api.Block{block(256, 1)}, api.ErrArg},
		{"a start that is no page", 4096, 255, 512, []api.Block{block(300, 1)}, api.ErrArg},
		{"a start that is no page, either", 4096, 257, 512, []api.Block{block(300, 1)}, api.ErrArg},
		{"an end that is no page", 4096, 256, 511, []api.Block{block(300, 1)}, api.ErrArg},
		{"an end that is no page, either", 4096, 256, 513, []api.Block{block(300, 1)}, api.ErrArg},
		{"an end at 0", 4096, 256, 0, []api.Block{block(300, 1)}, api.ErrArg},
		{"an end at the start", 4096, 256, 256, []api.Block{block(256, 1)}, api.ErrArg},
		{"an end ahead of the start", 4096, 768, 512, []api.Block{block(768, 1)}, api.ErrArg},
		{"an end ahead of the start, a block between", 4096, 768, 512, []api.Block{block(600, 1)}, api.ErrArg},
		{"an end at most", 4096, 256, 4096, []api.Block{block(4095, 1)}, api.OK},
		{"an end above most", 4096, 256, 4352, []api.Block{block(256, 1)}, api.ErrArg},
		{"an end above a most that is no page", 4351, 256, 4352, []api.Block{block(256, 1)}, api.ErrArg},
		{"an end below a most that is no page", 4351, 256, 4096, []api.Block{block(256, 1)}, api.OK},
		{"most 0", 0, 256, 512, []api.Block{block(256, 1)}, api.ErrArg},
		{"all there can be", top, 256, top - 255, []api.Block{block(256, top-511)}, api.OK},
		{"a byte more", top, 256, top - 255, []api.Block{block(256, top-510)}, api.ErrArg},
		{"one that wraps round to 0", top, 256, top - 255, []api.Block{block(top-300, 301)}, api.ErrArg},
		{"one that wraps round behind the start", top, 256, top - 255, []api.Block{block(top-300, 900)}, api.ErrArg},
		{"one that wraps round to itself", top, 256, top - 255, []api.Block{block(300, top)}, api.ErrArg},
		{"one that wraps round, and one behind it", top, 256, top - 255, []api.Block{block(top-300, 900), block(700, 1)}, api.ErrArg},
		{"an end that is no page at the top", top, 256, top, []api.Block{block(300, 1)}, api.ErrArg},
		{"two at the top", top, top - 511, top - 255, []api.Block{block(top-511, 1), block(top-256, 1)}, api.OK},
		{"one at the top", top, 256, top - 255, []api.Block{block(top, 1)}, api.ErrArg},
	} {
		expectLoad(t, c.what+", new", New(c.most), c.e, c.start, c.end, c.l...)
		if c.most >= 4096 {
			h := loaded(t, c.most, 512, 1024, block(600, 7), block(700, 300))
			expectLoad(t, c.what, h, c.e, c.start, c.end, c.l...)
		}
	}
}

func TestLoadMany(t *testing.T) {
	most := row(4096, 300, 2)
	h := New(1 << 20)
	expectLoad(t, "MaxBlocks", h, api.OK, 256, 1<<20, most...)
	more := row(4097, 300, 2)
	expectLoad(t, "one more", h, api.ErrMany, 256, 1<<20, more...)
	expectLoad(t, "one more of a new heap", New(1<<20), api.ErrMany, 256, 1<<20, more...)
	// Whatever else is wrong, it is too many first.
	for _, c := range []struct{ start, end uint32 }{{0, 0}, {0, 1 << 20}, {255, 1 << 20}, {256, 1}, {256, 1<<20 + 256}, {512, 256}} {
		expectLoad(t, "one more, and its bounds", h, api.ErrMany, c.start, c.end, more...)
		expectLoad(t, "its bounds", h, api.ErrArg, c.start, c.end, most...)
	}
	for _, i := range []int{0, 1, 2000, 4095} {
		for _, b := range []api.Block{block(0, 1), block(more[i].Addr, 0), block(more[i].Addr, top), block(more[i].Addr, 3), block(255, 2)} {
			l := slices.Clone(more)
			l[i] = b
			expectLoad(t, "one more, and a block", h, api.ErrMany, 256, 1<<20, l...)
			if i < 4095 || b.Len != 3 {
				expectLoad(t, "a block", h, api.ErrArg, 256, 1<<20, l[:4096]...)
			}
		}
	}
	expectLoad(t, "far more, of nothing", h, api.ErrMany, 0, 0, make([]api.Block, 100000)...)
}

func TestLoadAndGoOn(t *testing.T) {
	// What was there is there no more, and most is as it was.
	h := New(2048)
	expectBlock(t, h, 500, 256, 256, 768)
	expectLoad(t, "another one", h, api.OK, 1024, 1536, block(1100, 10))
	expectFree(t, h, 256, api.ErrNone)
	expectBlock(t, h, 76, 256, 1024, 1536)
	expectBlock(t, h, 427, 0, 1110, 1792)
	expectNoBlock(t, h, 512, 0)
	expectBlock(t, h, 511, 0, 1537, 2048)
	expectLoad(t, "nothing", h, api.OK, 0, 0)
	expectFree(t, h, 1024, api.ErrNone)
	expectNoBlock(t, h, 1, 0)
	expectBlock(t, h, 1, 512, 512, 768)
}

func TestLoadByChance(t *testing.T) {
	r := rand.New(rand.NewSource(84))
	count := map[api.Errno]int{}
	for range 40000 {
		most := someOf[uint32](r, 1024, 4096, 4200, 1<<20, top)
		h, m := New(most), &model{most: int64(most)}
		for range r.Intn(4) {
			step(t, r, h, m)
		}
		start, end, l := someLoad(r, most)
		want := m.load(start, end, l)
		if e := h.Load(start, end, l...); e != want {
			t.Fatalf("Load(%d, %d, %v) = %d, not %d; most %d", start, end, l, e, want, most)
		}
		expectModel(t, "after a Load", h, m)
		count[want]++
		for range 3 {
			step(t, r, h, m)
		}
	}
	if count[api.OK] < 5000 || count[api.ErrArg] < 5000 {
		t.Errorf("only %v times of each error", count)
	}
}

// someLoad: what could be loaded, with a fault or two now and then.
func someLoad(r *rand.Rand, most uint32) (start, end uint32, l []api.Block) {
	pages := int(most / 256)
	from := 1 + r.Intn(pages-1)
	to := from + 1 + r.Intn(pages-from)
	start, end = uint32(256*from), uint32(256*to)
	for at := start; at < end && len(l) < 8; {
		room := end - at
		gap := someOf(r, 0, uint32(r.Int63n(int64(room))), uint32(r.Intn(int(min(room, 50)))))
		n := someOf(r, 1, room-gap, 1+uint32(r.Int63n(int64(room-gap))), min(room-gap, 20))
		l = append(l, block(at+gap, n))
		at += gap + n
	}
	for range r.Intn(3) {
		small := someOf[uint32](r, 1, top, 2, 256, top-255, 1<<31, r.Uint32())
		switch r.Intn(4) {
		case 0:
			start += small
		case 1:
			end += small
		case 2:
			l[r.Intn(len(l))].Addr += small
		case 3:
			l[r.Intn(len(l))].Len += small
		}
	}
	return start, end, l
}

// P8.5

func TestCopy(t *testing.T) {
	expectHeap(t, "a copy of none", New(4096).Copy(), 0, 0)
	h := loaded(t, 2048, 512, 1024, block(600, 10), block(700, 20))
	c := h.Copy()
	expectHeap(t, "a copy", c, 512, 1024, block(600, 10), block(700, 20))
	// Each goes its own way.
	expectBlock(t, h, 5, 0, 512, 1024)
	expectHeap(t, "the copy", c, 512, 1024, block(600, 10), block(700, 20))
	expectFree(t, c, 600, api.OK)
	expectNoBlock(t, c, 1329, 0)
	expectBlock(t, c, 1328, 0, 720, 2048)
	expectHeap(t, "what was copied", h, 512, 1024, block(512, 5), block(600, 10), block(700, 20))
}

func TestCopyHasTheSameMost(t *testing.T) {
	for _, most := range []uint32{0, 256, 512, 1000, 1024, 4096, 1 << 20, top} {
		h := New(most)
		c := h.Copy()
		pages := most / 256
		expectNoBlock(t, c, 1, 256*pages)
		if pages < 2 {
			continue
		}
		expectNoBlock(t, c, 256*(pages-1)+1, 256)
		expectBlock(t, c, 256*(pages-1), 256, 256, 256*pages)
		c = c.Copy().Copy()
		expectNoBlock(t, c, 1, 0)
		expectFree(t, c, 256, api.OK)
		expectBlock(t, c, 256, 256*(pages-1), 256*(pages-1), 256*pages)
		expectHeap(t, "what was copied", h, 0, 0)
	}
}

func TestCopyApart(t *testing.T) {
	r := rand.New(rand.NewSource(85))
	for range 1000 {
		h, m := someHeap(r)
		for range 12 {
			step(t, r, h, m)
		}
		c, n := h.Copy(), *m
		for range 12 {
			step(t, r, h, m)
			step(t, r, c, &n)
			expectModel(t, "what was copied", h, m)
		}
	}
}

func TestNil(t *testing.T) {
	var h *Heap
	for _, x := range []uint32{0, 1, 256, 1024, top} {
		for _, n := range []uint32{0, 1, top} {
			if at, ok := h.Malloc(n, x); at != 0 || ok {
				t.Errorf("Malloc(%d, %d) of nil = %d, %t", n, x, at, ok)
			}
		}
		if e := h.Free(x); e != api.ErrNil {
			t.Errorf("Free(%d) of nil = %d", x, e)
		}
	}
	for what, l := range [][]api.Block{nil, {}, {block(256, 1)}, {block(0, 0)}, make([]api.Block, 4096), make([]api.Block, 4097)} {
		for _, start := range []uint32{0, 1, 256} {
			if e := h.Load(start, 2*start, l...); e != api.ErrNil {
				t.Errorf("Load of nil, list %d: %d", what, e)
			}
		}
	}
	if h.Active() || h.Start() != 0 || h.End() != 0 || len(h.Blocks()) != 0 || h.Copy() != nil {
		t.Error("a nil heap tells of blocks, or has a copy")
	}
}

// Rules that hold everywhere: Memory

func TestNothingIsShared(t *testing.T) {
	room := make([]api.Block, 2, 40)
	room[0], room[1] = block(300, 10), block(320, 5)
	fill(room[2:], block(7, 7))
	kept := slices.Clone(room[:cap(room)])
	h, other := New(4096), New(4096)
	h.Load(256, 512, room...)
	other.Load(256, 512, room...)
	h.Malloc(1, 0)
	h.Malloc(20, 0)
	h.Free(300)
	if !slices.Equal(room[:cap(room)], kept) {
		t.Error("what Load was handed has changed")
	}
	fill(room, block(9, 9))
	want := []api.Block{block(256, 1), block(257, 20), block(320, 5)}
	expectHeap(t, "what Load was handed is filled", h, 256, 512, want...)
	expectHeap(t, "and another heap", other, 256, 512, block(300, 10), block(320, 5))
	c := h.Copy()
	first, second := h.Blocks(), h.Blocks()
	fill(first, block(8, 8))
	if !slices.Equal(second, want) {
		t.Error("two answers of Blocks share their memory")
	}
	expectHeap(t, "what Blocks answered is filled", h, 256, 512, want...)
	expectHeap(t, "and the copy", c, 256, 512, want...)
	h.Malloc(1, 0)
	h.Free(257)
	if !slices.Equal(second, want) {
		t.Error("a heap changes what Blocks answered")
	}
	expectHeap(t, "and a copy", c, 256, 512, want...)
}

// fill: all blocks of l, its spare room included, become b.
func fill(l []api.Block, b api.Block) {
	l = l[:cap(l)]
	for i := range l {
		l[i] = b
	}
}
