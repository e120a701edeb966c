package find

import (
	"bytes"
	"math/rand"
	"slices"
	"testing"

	"grotto/api"
	"grotto/memory"
)

// aRow is a row of structures in a memory: where they lie, and their keys; what is looked for lies where Key says.
type aRow struct {
	m    *memory.Memory
	s    api.Search
	keys [][]byte
}

// addr: where structure i lies.
func (a *aRow) addr(i int) uint32 {
	return a.s.Start + uint32(i)*a.s.Size
}

// seek: the search for a key, which is written where it is looked for.
func (a *aRow) seek(t *testing.T, key []byte, options uint32) api.Search {
	t.Helper()
	s := a.s
	s.Options = options | api.FindIndirect
	for i, x := range key {
		if e := a.m.Write(s.Key+uint32(i), 1, uint32(x)); e != api.OK {
			t.Fatal(e)
		}
	}
	return s
}

// someKeys: n keys of that size, whose bytes are few: two may be alike.
func someKeys(r *rand.Rand, n, size int) [][]byte {
	var l [][]byte
	for range n {
		k := make([]byte, size)
		for i := range k {
			k[i] = someOf[byte](r, 0, 0, 1, 127, 128, 255, byte(r.Intn(256)))
		}
		l = append(l, k)
	}
	return l
}

// layKeys: a row of structures with these keys by chance, upward or downward, with a chain through them in their order.
func layKeys(t *testing.T, r *rand.Rand, size int, keys [][]byte) *aRow {
	t.Helper()
	link, n := r.Intn(3), len(keys)
	offset := link + 4 + r.Intn(3)
	whole := offset + size + r.Intn(3)
	ram := make([]byte, api.MaxKey+n*whole+r.Intn(300))
	r.Read(ram)
	a := &aRow{keys: keys, s: api.Search{KeySize: uint32(size), Key: ramStart, Start: ramStart + api.MaxKey, Size: uint32(whole), Count: uint32(n), Offset: uint32(offset), Next: uint32(link)}}
	if n > 0 && r.Intn(2) == 0 {
		a.s.Start, a.s.Size = a.addr(n-1), -a.s.Size
	}
	for i, k := range keys {
		next := a.addr(i + 1)
		if i == n-1 {
			next = 0
		}
		one := ram[a.addr(i)-ramStart:]
		copy(one[offset:], k)
		copy(one[link:], []byte{byte(next >> 24), byte(next >> 16), byte(next >> 8), byte(next)})
	}
	a.m = holding(t, ram...)
	if n == 0 {
		a.s.Start = 0
	}
	if away := someOf(r, 0, r.Uint32()); n > 0 && away != 0 && r.Intn(2) == 0 {
		a.shift(t, away)
	}
	return a
}

// shift: all structures lie further on by so much, round 2^32; their keys and next numbers stay where they are.
func (a *aRow) shift(t *testing.T, by uint32) {
	t.Helper()
	was := *a
	a.s.Start, a.s.Offset, a.s.Next = a.s.Start+by, a.s.Offset-by, a.s.Next-by
	for i := range len(a.keys) - 1 {
		if a.addr(i) == 0 || a.addr(i+1) == 0 {
			t.Fatal("a structure at 0")
		}
		if e := a.m.Write(was.addr(i)+was.s.Next, 4, a.addr(i+1)); e != api.OK {
			t.Fatal(e)
		}
	}
}

// someRow: a row by chance; sorted, if so, without two that are alike.
func someRow(t *testing.T, r *rand.Rand, sorted bool) *aRow {
	t.Helper()
	size := someOf(r, 1, 1, 2, 2, 3, 4, 4, 5, 17, 256)
	keys := someKeys(r, someOf(r, 0, 1, 2, 3, r.Intn(10), r.Intn(40)), size)
	if sorted {
		slices.SortFunc(keys, bytes.Compare)
		keys = slices.CompactFunc(keys, bytes.Equal)
	}
	return layKeys(t, r, size, keys)
}

// sought: the keys that are looked for in a row: its own, some near to them, and others.
func (a *aRow) sought(r *rand.Rand) [][]byte {
	size := int(a.s.KeySize)
	l := append(someKeys(r, 5, size), make([]byte, size), bytes.Repeat([]byte{255}, size))
	for _, k := range a.keys {
		near := bytes.Clone(k)
		near[r.Intn(size)] += someOf[byte](r, 1, 255, 128)
		l = append(l, k, near)
	}
	return l
}

// P13.6

func TestLinearFindsTheFirst(t *testing.T) {
	r := rand.New(rand.NewSource(1306))
	for range 600 {
		a := someRow(t, r, false)
		for _, key := range a.sought(r) {
			first := slices.IndexFunc(a.keys, func(k []byte) bool { return bytes.Equal(k, key) })
			addr, index := uint32(0), uint32(top32)
			if first >= 0 {
				addr, index = a.addr(first), uint32(first)
			}
			expectLinear(t, a.m, a.seek(t, key, 0), addr, api.OK)
			expectLinear(t, a.m, a.seek(t, key, api.FindIndex), index, api.OK)
			// With FindZero only what lies up to the first key of bytes 0.
			zero := slices.IndexFunc(a.keys, allZero)
			if zero >= 0 && first > zero {
				addr, index = 0, top32
			}
			expectLinear(t, a.m, a.seek(t, key, api.FindZero), addr, api.OK)
			expectLinear(t, a.m, a.seek(t, key, api.FindZero|api.FindIndex), index, api.OK)
		}
	}
}

// P13.7

func TestBinaryFindsWhatLinearFinds(t *testing.T) {
	r := rand.New(rand.NewSource(1307))
	found, none := 0, 0
	for range 600 {
		a := someRow(t, r, true)
		for _, key := range a.sought(r) {
			for _, options := range []uint32{0, api.FindIndex} {
				s := a.seek(t, key, options)
				want, e := Linear(a.m, s)
				if e != api.OK {
					t.Fatalf("Linear(%+v): %d", s, e)
				}
				expectBinary(t, a.m, s, want, api.OK)
				s.Options |= api.FindZero
				expectBinary(t, a.m, s, want, api.OK)
				if want == 0 && options == 0 {
					none++
				} else {
					found++
				}
			}
		}
	}
	if found < 1000 || none < 1000 {
		t.Errorf("found %d times, not found %d times", found, none)
	}
}

// P13.8

func TestLinkedFindsWhatLinearFinds(t *testing.T) {
	r := rand.New(rand.NewSource(1308))
	for range 600 {
		a := someRow(t, r, r.Intn(2) == 0)
		for _, key := range a.sought(r) {
			for _, options := range []uint32{0, api.FindZero} {
				s := a.seek(t, key, options)
				want, e := Linear(a.m, s)
				if e != api.OK {
					t.Fatalf("Linear(%+v): %d", s, e)
				}
				expectLinked(t, a.m, s, want, api.OK)
				s.Options |= api.FindIndex
				expectLinked(t, a.m, s, want, api.OK)
			}
		}
	}
}

func TestLinkedFindsWhatLinearFindsInTheLongest(t *testing.T) {
	const n = api.MaxLinks
	ram := make([]byte, 8*n)
	for i := range n {
		next := ramStart + 8*(i+1)
		if i == n-1 {
			next = 0
		}
		copy(ram[8*i:], []byte{byte(next >> 24), byte(next >> 16), byte(next >> 8), byte(next), 1, byte(i >> 8), byte(i)})
	}
	m := holding(t, ram...)
	for _, i := range []uint32{0, 1, 255, 256, n / 2, n - 2, n - 1} {
		s := api.Search{Key: i, KeySize: 2, Start: ramStart, Size: 8, Count: n, Offset: 5}
		for _, do := range searches() {
			expect(t, do.name, do.do, m, s, ramStart+8*i, api.OK)
		}
	}
	s := api.Search{Key: 2 << 16, KeySize: 4, Start: ramStart, Size: 8, Count: n, Offset: 4}
	for _, do := range searches() {
		expect(t, do.name, do.do, m, s, 0, api.OK)
	}
}

// P13.9

func TestWhatIsFoundHasTheKey(t *testing.T) {
	r := rand.New(rand.NewSource(1309))
	seen := map[string]int{}
	for range 1500 {
		size := ramStart + 256*(1+r.Intn(2))
		m := holding(t, someRam(r, size-ramStart)...)
		b := m.Bytes()
		for range 40 {
			s := someSearch(r, size)
			key, _ := Key(m, s)
			for _, f := range searches() {
				s.Options &^= api.FindIndex
				addr, e := f.do(m, s)
				if e != api.OK || addr == 0 {
					continue
				}
				seen[f.name]++
				if k, ok := some(b, addr+s.Offset, s.KeySize); !ok || !bytes.Equal(k, key) {
					t.Fatalf("%s(%+v) = %d, which has the key %x, not %x", f.name, s, addr, k, key)
				}
				if f.name == "Linked" {
					continue
				}
				s.Options |= api.FindIndex
				if i, e := f.do(m, s); e != api.OK || at(s, uint64(i)) != addr {
					t.Fatalf("%s(%+v) = %d, %d, which does not lie at %d", f.name, s, i, e, addr)
				}
			}
		}
		if !bytes.Equal(m.Bytes(), b) {
			t.Fatal("the memory has changed")
		}
	}
	for _, f := range searches() {
		if seen[f.name] < 1000 {
			t.Errorf("%s finds only %d times", f.name, seen[f.name])
		}
	}
}

func TestNothingChanges(t *testing.T) {
	// Neither the bytes nor the heap, nor what a restart would bring.
	m := holding(t, 0, 5, 0, 7, 0, 0, 0, 9)
	m.Protect(ramStart, 4)
	block := m.Malloc(20)
	m.Write(block, 4, ramStart)
	was := m.Copy()
	for _, s := range []api.Search{
		{Key: 7, KeySize: 2, Start: ramStart, Size: 2, Count: 4, Next: block - ramStart},
		{Key: 6, KeySize: 2, Start: ramStart, Size: 2, Count: top32, Next: block - ramStart, Options: 6},
		{Key: block, KeySize: 256, Start: ramStart, Size: 2, Count: 4, Options: 1},
		{Key: top32, KeySize: 256, Start: ramStart, Size: 2, Count: 4, Options: 1},
		{Key: block, KeySize: 257, Start: ramStart, Size: 2, Count: 4, Options: 1},
	} {
		Key(m, s)
		for _, f := range searches() {
			f.do(m, s)
		}
	}
	for _, again := range []bool{false, true} {
		if again {
			m.Restart()
			was.Restart()
		}
		start, l := m.Heap()
		wasStart, wasL := was.Heap()
		if !bytes.Equal(m.Bytes(), was.Bytes()) || m.Size() != was.Size() || start != wasStart || !slices.Equal(l, wasL) {
			t.Errorf("something has changed (restarted: %v)", again)
		}
	}
}
