package accel

import (
	"math/rand"
	"slices"
	"testing"

	"grotto/api"
)

// P18.8

// inOrder: rows with other keys, in order, and their numbers, laid from a place on.
func inOrder(r *rand.Rand, g *ground, at uint32) (l []row, values map[uint32][]uint32) {
	values = map[uint32][]uint32{}
	for range r.Intn(8) {
		key := uint32(r.Intn(60)) + 3
		if _, ok := values[key]; ok {
			continue
		}
		var numbers []uint32
		for range r.Intn(4) + 1 {
			numbers = append(numbers, r.Uint32())
		}
		values[key] = numbers
		l = append(l, row{key: key, count: uint32(len(numbers)), at: at})
		g.put(at, 4, numbers...)
		at += 4 * uint32(len(numbers))
	}
	slices.SortFunc(l, func(a, b row) int { return int(a.key) - int(b.key) })
	return l, values
}

func TestJustTheseProperties(t *testing.T) {
	r := rand.New(rand.NewSource(8))
	for range 100 {
		g := defaults()
		l, values := inOrder(r, g, numbers)
		g.table(thingTable, l...)
		m := g.memory(t)
		for key := range uint32(64) {
			i := slices.IndexFunc(l, func(x row) bool { return x.key == key })
			for _, plus := range []uint32{0, 6} {
				switch {
				case i >= 0:
					expectDo(t, m, usual(), 2+plus, args(thing, key), thingTable+4+10*uint32(i))
					expectDo(t, m, usual(), 3+plus, args(thing, key), l[i].at)
					expectDo(t, m, usual(), 4+plus, args(thing, key), 4*uint32(len(values[key])))
					expectDo(t, m, usual(), 6+plus, args(thing, key), values[key][0])
					expectDo(t, m, usual(), 7+plus, args(thing, key), 1)
				case key == 0:
					expectSlip(t, m, usual(), 6+plus, args(thing, key), api.SlipRead)
				default:
					expectDo(t, m, usual(), 6+plus, args(thing, key), 9000+key)
				}
				if i < 0 {
					for n := uint32(2); n <= 4; n++ {
						expectDo(t, m, usual(), n+plus, args(thing, key), 0)
					}
					expectDo(t, m, usual(), 7+plus, args(thing, key), 0)
				}
			}
		}
	}
}

func TestJustTheClassesThatItNames(t *testing.T) {
	r := rand.New(rand.NewSource(88))
	for range 100 {
		g := openGround()
		var all, named []uint32
		for i := range uint32(10) {
			all = append(all, 1500+40*i)
			g.object(1500+40*i, 7, 0, theClass)
			if r.Intn(2) == 0 {
				named = append(named, 1500+40*i)
			}
		}
		r.Shuffle(len(named), func(i, j int) { named[i], named[j] = named[j], named[i] })
		g.table(thingTable, row{key: 2, count: uint32(len(named)), at: numbers})
		g.put(numbers, 4, named...)
		m := g.memory(t)
		for _, b := range all {
			want := uint32(0)
			if slices.Contains(named, b) {
				want = 1
			}
			expectDo(t, m, usual(), 5, args(thing, b), want)
			expectDo(t, m, usual(), 11, args(thing, b), want)
		}
	}
}

// P18.9

func TestWithAttrsSeven(t *testing.T) {
	r := rand.New(rand.NewSource(9))
	for range 100 {
		p := someParams(r)
		p[api.ParamAttrs] = 7
		m := someGround(r, p, 7).memory(t)
		for range 300 {
			n := uint32(r.Intn(6)) + 2
			l := args(somePlace(r), someProperty(r, p))
			x, slip, e := Do(m, p, n, l...)
			expectAll(t, m, p, n+6, l, x, slip, e)
		}
	}
}

func TestAttrsHaveNoPartUpToSeven(t *testing.T) {
	r := rand.New(rand.NewSource(99))
	for range 60 {
		p := someParams(r)
		m := someGround(r, p, 7).memory(t)
		for range 200 {
			n := uint32(r.Intn(7)) + 1
			l := args(somePlace(r), someProperty(r, p))
			x, slip, e := Do(m, p, n, l...)
			for _, attrs := range []uint32{0, 3, 8, top, r.Uint32()} {
				expectAll(t, m, with(p, api.ParamAttrs, attrs), n, l, x, slip, e)
			}
		}
	}
}

// P18.10

func TestNothingInMemoryChanges(t *testing.T) {
	r := rand.New(rand.NewSource(10))
	for range 60 {
		p := someParams(r)
		m := someGround(r, p, 7).memory(t)
		m.Protect(300, 20)
		m.Malloc(20)
		was, game := m.Bytes(), m.Game()
		start, blocks := m.Heap()
		for range 200 {
			Do(m, p, uint32(r.Intn(15)), somePlace(r), someProperty(r, p))
		}
		nowStart, nowBlocks := m.Heap()
		if !slices.Equal(m.Bytes(), was) || !slices.Equal(m.Game(), game) || nowStart != start || !slices.Equal(nowBlocks, blocks) {
			t.Fatal("the memory has changed")
		}
	}
}

func TestAlikeAgain(t *testing.T) {
	// What a function comes to hangs on what is handed in alone, not on what was asked ahead of it.
	r := rand.New(rand.NewSource(11))
	p := someParams(r)
	m := someGround(r, p, 7).memory(t)
	type call struct {
		n, a, b, x uint32
		slip       int
		e          api.Errno
	}
	var l []call
	for range 2000 {
		c := call{n: uint32(r.Intn(14)), a: somePlace(r), b: someProperty(r, p)}
		c.x, c.slip, c.e = Do(m, p, c.n, c.a, c.b)
		l = append(l, c)
	}
	r.Shuffle(len(l), func(i, j int) { l[i], l[j] = l[j], l[i] })
	for _, c := range l {
		expectAll(t, m.Copy(), slices.Clone(p), c.n, args(c.a, c.b), c.x, c.slip, c.e)
	}
}
