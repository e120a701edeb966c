package accel

import (
	"math/rand"
	"slices"
	"testing"

	"grotto/api"
	"grotto/memory"
)

// P18.6

func TestDoRefused(t *testing.T) {
	m := openGround().memory(t)
	for _, n := range []uint32{0, 14, 15, 256 + 1, 1 << 16, 1<<31 + 1, top} {
		expectError(t, m, usual(), n, args(thing, 5), api.ErrArg)
		expectError(t, m, usual(), n, nil, api.ErrArg)
	}
	for _, p := range [][]uint32{nil, {}, usual()[:1], usual()[:8], append(usual(), 0), append(usual(), usual()...)} {
		for n := range uint32(16) {
			expectError(t, m, p, n, args(thing, 5), api.ErrArg)
			expectError(t, m, p, n, nil, api.ErrArg)
		}
	}
	// What slips or is not there is not looked at.
	expectError(t, m, usual()[:8], 2, args(0, 5), api.ErrArg)
	expectError(t, m, usual()[:8], 5, args(thing, groundSize), api.ErrArg)
}

func TestDoNil(t *testing.T) {
	for _, p := range [][]uint32{nil, usual()[:8], usual(), append(usual(), 0)} {
		for n := range uint32(16) {
			for _, l := range [][]uint32{nil, {}, {thing}, {thing, 5}, {0, 5, 9}} {
				if x, slip, e := Do(nil, p, n, l...); x != 0 || slip != api.SlipNone || e != api.ErrNil {
					t.Error(p, n, l, x, slip, e)
				}
			}
		}
	}
}

func TestDoTakesAllFunctions(t *testing.T) {
	m := defaults().memory(t)
	for n, want := range map[uint32]uint32{1: 1, 2: thingTable + 24, 3: numbers + 12, 4: 8, 5: 0, 6: 105, 7: 1} {
		b := uint32(5)
		if n == 5 {
			b, want = kind, 1
		}
		expectDo(t, m, usual(), n, args(thing, b), want)
		if n > 1 {
			expectDo(t, m, usual(), n+6, args(thing, b), want)
		}
	}
}

func TestDoArguments(t *testing.T) {
	g := defaults()
	g.table(thingTable, row{key: 0, count: 2, at: numbers + 4}, row{key: 5, count: 1, at: numbers})
	g.object(0, 7, thingTable, 0)
	m := g.memory(t)
	for n := uint32(1); n <= api.MaxFast; n++ {
		for _, l := range [][]uint32{{}, {thing}, {thing, 5}, {thing, 0}, {thing, 5, 9}, {thing, 5, thing, 0}, {5, thing}, {thing, 5, top, top, top, top, top, top, top}} {
			expectLikeModel(t, m, usual(), n, l)
		}
	}
	for _, l := range [][]uint32{{thing}, {thing, 0}, {thing, 0, 5}} {
		expectDo(t, m, usual(), 2, l, thingTable+4)
		expectDo(t, m, usual(), 3, l, numbers+4)
		expectDo(t, m, usual(), 4, l, 8)
		expectDo(t, m, usual(), 6, l, kind)
		expectDo(t, m, usual(), 7, l, 1)
	}
	for _, n := range []uint32{2, 3, 4, 6} {
		expectSlip(t, m, usual(), n, nil, api.SlipFind)
		expectSlip(t, m, usual(), n, args(), api.SlipFind)
	}
	for _, n := range []uint32{1, 5, 7} {
		expectDo(t, m, usual(), n, nil, 0)
	}
}

func TestSlip(t *testing.T) {
	for slip, want := range map[int]string{
		api.SlipNone: "", api.SlipFind: "[** Programming error: tried to find the \".\" of (something) **]",
		api.SlipClass: "[** Programming error: tried to apply 'ofclass' with non-class **]",
		api.SlipRead:  "[** Programming error: tried to read (something) **]",
		4:             "", -1: "", -2: "", 5: "", 257: "", 1 << 62: "", -1 << 63: "",
	} {
		if Slip(slip) != want {
			t.Errorf("slip %d: %q", slip, Slip(slip))
		}
	}
}

func TestDoOfTheZeroMemory(t *testing.T) {
	// What it answers is open; it ends.
	for n := range uint32(16) {
		for _, a := range []uint32{0, 36, 300, top} {
			Do(&memory.Memory{}, usual(), n, a, 5)
			Do(&memory.Memory{}, nil, n, a, 5)
		}
	}
}

func TestDoSharesNothing(t *testing.T) {
	m := openGround().memory(t)
	roomyP := append(make([]uint32, 0, 20), usual()...)
	roomyArgs := append(make([]uint32, 0, 20), thing, 5)
	for i := range 20 {
		if i >= 9 {
			roomyP[:20][i] = 7777
		}
		if i >= 2 {
			roomyArgs[:20][i] = 7777
		}
	}
	wasP, wasArgs := slices.Clone(roomyP[:20]), slices.Clone(roomyArgs[:20])
	for n := uint32(1); n <= api.MaxFast; n++ {
		expectLikeModel(t, m, roomyP, n, roomyArgs)
		expectLikeModel(t, m, roomyP, n, roomyArgs[:1])
		if !slices.Equal(roomyP[:20], wasP) || !slices.Equal(roomyArgs[:20], wasArgs) {
			t.Fatal(n, roomyP[:20], roomyArgs[:20])
		}
	}
	// What was handed in is not kept: it can be changed.
	for i := range roomyP {
		roomyP[i] = 0
	}
	expectDo(t, m, usual(), 3, args(thing, 5), numbers+12)
}

// What functions come to, held against the model over grounds by chance.

// someOf: one of them.
func someOf(r *rand.Rand, l ...uint32) uint32 {
	return l[r.Intn(len(l))]
}

// somePlace: an address at which something may lie.
func somePlace(r *rand.Rand) uint32 {
	switch r.Intn(12) {
	case 0:
		return someOf(r, 0, 1, 35, 36, 37, 255, 256)
	case 1:
		return groundSize - uint32(r.Intn(30))
	case 2:
		return someOf(r, groundSize, groundSize+1, 1<<31, top, top-3, top-15, top-19, top-20, top-23)
	case 3:
		return uint32(r.Intn(groundSize))
	}
	return 400 + 40*uint32(r.Intn(20))
}

// someTable: where a table, or a row of numbers, may lie.
func someTable(r *rand.Rand) uint32 {
	switch r.Intn(12) {
	case 0:
		return 0
	case 1:
		return groundSize - uint32(r.Intn(40))
	case 2:
		return someOf(r, groundSize, 1<<31, top, top-3)
	}
	return 1200 + 64*uint32(r.Intn(8))
}

// someKey: a property.
func someKey(r *rand.Rand) uint32 {
	return someOf(r, 0, 1, 2, 2, 2, 3, 4, 5, 63, 64, 65, 68, 69, 70, 71, 72, 73, 255, 256, 65535)
}

// someProperty: one that is asked for.
func someProperty(r *rand.Rand, p []uint32) uint32 {
	switch r.Intn(6) {
	case 0:
		return someKey(r)<<16 | uint32(r.Intn(9))
	case 1:
		return p[api.ParamIndiv] + uint32(r.Intn(12)) - 2
	case 2:
		return someOf(r, 65536, 65537, 2<<16, 1<<31, top, top-8)
	}
	return someKey(r)
}

// someTableLaid: a table of properties, most of them in order.
func someTableLaid(r *rand.Rand, g *ground, at uint32) {
	var l []row
	for range r.Intn(6) {
		count := uint32(r.Intn(4))
		if r.Intn(6) == 0 {
			count = someOf(r, 65535, 0x4000, 600)
		}
		l = append(l, row{key: someKey(r), count: count, at: someTable(r), flag: someOf(r, 0, 0, 0, 2, 1, 256)})
	}
	if r.Intn(5) > 0 {
		slices.SortFunc(l, func(a, b row) int { return int(a.key) - int(b.key) })
	}
	g.table(at, l...)
	if r.Intn(8) == 0 {
		g.put(at, 4, someOf(r, 7, 200, 1<<31, top))
	}
}

// someGround: objects and tables by chance.
func someGround(r *rand.Rand, p []uint32, attrs uint32) *ground {
	g := newGround()
	for i := range uint32(9) {
		g.put(theClasses+4*i, 4, somePlace(r))
	}
	for b := range uint32(64) {
		g.put(theDefaults+4*b, 4, 9000+b)
	}
	for at := uint32(1200); at < 1800; at += 64 {
		if r.Intn(3) > 0 {
			someTableLaid(r, g, at)
			continue
		}
		for i := range uint32(16) {
			g.put(at+4*i, 4, somePlace(r))
		}
	}
	for range 20 {
		a := somePlace(r)
		class := someOf(r, p[api.ParamClass], p[api.ParamClass], p[api.ParamObject], 0, somePlace(r))
		g.object(a, attrs, someTable(r), class)
		g.put(a, 1, someOf(r, 0x70, 0x70, 0x70, 0x70, 0x7f, 0x71, 0xc0, 0xc1, 0xe0, 0xff, 0x6f, 0x80))
	}
	if r.Intn(2) == 0 {
		g.put(theSelf, 4, somePlace(r))
	}
	return g
}

// someParams: params by chance.
func someParams(r *rand.Rand) []uint32 {
	p := usual()
	for _, i := range []int{api.ParamClass, api.ParamObject, api.ParamRoutine, api.ParamString} {
		p[i] = 400 + 40*uint32(r.Intn(20))
		if r.Intn(10) == 0 {
			p[i] = someOf(r, 0, somePlace(r))
		}
	}
	p[api.ParamIndiv] = someOf(r, 64, 64, 64, 64, 0, 1, 2, 3, 70, 65535, 1<<31, top, top-7, top-8)
	p[api.ParamAttrs] = someOf(r, 7, 7, 0, 3, 8, 11, 15, 39, top, top-28, uint32(r.Intn(64)))
	if r.Intn(10) == 0 {
		p[r.Intn(9)] = someOf(r, 0, top, somePlace(r), r.Uint32())
	}
	return p
}

func TestByChance(t *testing.T) {
	r := rand.New(rand.NewSource(18))
	seen := map[[2]uint32]int{}
	for range 400 {
		p := someParams(r)
		attrs := someOf(r, 7, p[api.ParamAttrs])
		m := someGround(r, p, attrs).memory(t)
		was := m.Bytes()
		for range 500 {
			n := uint32(r.Intn(api.MaxFast)) + 1
			a, b := somePlace(r), someProperty(r, p)
			if n == 5 || n == 11 {
				b = someOf(r, somePlace(r), p[api.ParamClass+r.Intn(4)])
			}
			l := args(a, b, top)[:someOf(r, 2, 2, 2, 2, 1, 3, 0)]
			x, slip, e := Do(m, p, n, l...)
			wantX, wantSlip, wantE := modelDo(m, p, n, l...)
			if x != wantX || slip != wantSlip || e != wantE {
				t.Fatalf("function %d of %d with %d: %d, slip %d, %d; want %d, slip %d, %d", n, l, p, x, slip, e, wantX, wantSlip, wantE)
			}
			seen[[2]uint32{n, uint32(slip)*1000 + uint32(e)}]++
			if x != 0 {
				seen[[2]uint32{n, 500}]++
			}
		}
		if !slices.Equal(m.Bytes(), was) {
			t.Fatal("the memory has changed")
		}
	}
	// Each function has come to something, to nothing, to each slip that it can come to, and to what is not there.
	for n := uint32(1); n <= api.MaxFast; n++ {
		want := []uint32{0, 500, api.SlipFind * 1000, api.SlipClass * 1000, api.SlipRead * 1000, uint32(api.FatalRead)}
		switch kindOf(n) {
		case 1:
			want = want[:2]
		case 2:
			want = []uint32{0, 500, api.SlipFind * 1000, uint32(api.FatalRead)}
		case 3, 4:
			want = []uint32{0, 500, api.SlipFind * 1000, api.SlipClass * 1000, uint32(api.FatalRead)}
		case 5:
			want = []uint32{0, 500, api.SlipClass * 1000, uint32(api.FatalRead)}
		case 7:
			want = []uint32{0, 500, api.SlipClass * 1000, uint32(api.FatalRead)}
		}
		for _, k := range want {
			if seen[[2]uint32{n, k}] < 20 {
				t.Errorf("function %d: %d seen %d times", n, k, seen[[2]uint32{n, k}])
			}
		}
	}
}
