package text

import (
	"bytes"
	"math/rand"
	"slices"
	"testing"

	"grotto/api"
)

// P12.6

// expectAgain: the text is told as it was, with its table at one place and itself at another, the memory ending behind both.
func expectAgain(t *testing.T, r *rand.Rand, alphabet, l []uint32, tableFirst bool, ahead, between int) {
	t.Helper()
	packed, e := Pack(alphabet, l)
	if e != api.OK {
		t.Fatal(alphabet, l, e)
	}
	b := make([]byte, ahead)
	r.Read(b)
	noise := make([]byte, between)
	r.Read(noise)
	var at, addr uint32
	layTable := func() {
		at = uint32(len(b))
		table, e := Table(at, alphabet...)
		if e != api.OK {
			t.Fatal(alphabet, e)
		}
		b = append(b, table...)
	}
	if tableFirst {
		layTable()
		b = append(b, noise...)
	}
	addr = uint32(len(b))
	b = append(b, packed...)
	if !tableFirst {
		b = append(b, noise...)
		layTable()
	}
	expectPlain(t, b, at, addr, len(l), l, true, api.OK)
	expectPlain(t, b, at, addr, len(l)+1, l, true, api.OK)
	if len(l) > 0 {
		expectPlain(t, b, at, addr, len(l)-1, l[:len(l)-1], false, api.OK)
	}
}

func TestPlainOfPack(t *testing.T) {
	r := rand.New(rand.NewSource(1206))
	for range 4000 {
		alphabet := someAlphabet(r, someOf(r, 0, 1, 2, 3, r.Intn(10), r.Intn(100)))
		l := someText(r, alphabet, 50)
		// No table lies at 0.
		expectAgain(t, r, alphabet, l, r.Intn(2) == 0, 1+r.Intn(20), r.Intn(20))
	}
}

func TestPlainOfPackOfLongAlphabets(t *testing.T) {
	r := rand.New(rand.NewSource(12061))
	for _, n := range []int{255, 256, 257, api.MaxAlphabet - 1, api.MaxAlphabet} {
		alphabet := someAlphabet(r, n)
		for _, tableFirst := range []bool{true, false} {
			expectAgain(t, r, alphabet, alphabet, tableFirst, 1, 0)
			l := someText(r, alphabet, 3000)
			expectAgain(t, r, alphabet, l, tableFirst, 100000, 70000)
		}
	}
}

// P12.7

func TestPlainIsWhatNextTells(t *testing.T) {
	r := rand.New(rand.NewSource(1207))
	told := 0
	for range 20000 {
		k, table, text := someBook(r)
		b := k.b
		at, e := Begin(b, text)
		if e != api.OK {
			t.Fatal(e)
		}
		var l []uint32
		pieces := 0
		// Behind all characters a piece without any may come ahead of what the text ends by.
		between := false
		p, next, e := Next(b, table, at)
		for ; e == api.OK && p.Kind == api.PieceChars && pieces < 100; p, next, e = Next(b, table, at) {
			l = append(l, p.Chars...)
			at = next
			pieces++
			between = len(p.Chars) == 0
		}
		if pieces == 100 {
			continue
		}
		told++
		switch {
		case e != api.OK:
			expectPlain(t, b, table, text, len(l)+1, nil, false, e)
		case p.Kind == api.PieceRef:
			expectPlain(t, b, table, text, len(l)+1, nil, false, api.ErrNone)
		default:
			expectPlain(t, b, table, text, len(l)+1, l, true, api.OK)
		}
		switch {
		case between:
			expectPlain(t, b, table, text, len(l), l, false, api.OK)
		case e != api.OK:
			expectPlain(t, b, table, text, len(l), nil, false, e)
		default:
			expectPlain(t, b, table, text, len(l), l, p.Kind == api.PieceEnd, api.OK)
		}
		if len(l) > 0 {
			most := r.Intn(len(l))
			expectPlain(t, b, table, text, most, l[:most], false, api.OK)
		}
	}
	if told < 5000 {
		t.Error(told)
	}
}

func TestPlainWithMore(t *testing.T) {
	r := rand.New(rand.NewSource(12071))
	for range 5000 {
		k, table, text := someBook(r)
		var was []uint32
		wasWhole := false
		for most := range 12 {
			l, whole, e := Plain(k.b, table, text, most)
			if e != api.OK {
				break
			}
			if len(l) > most || len(l) < len(was) || !slices.Equal(l[:len(was)], was) || wasWhole && (!whole || len(l) != len(was)) {
				t.Fatalf("Plain(%x, %x, %x, %d): %x, %v; with fewer %x, %v", k.b, table, text, most, l, whole, was, wasWhole)
			}
			was, wasWhole = l, whole
		}
	}
}

// P12.8

// spoil: all bytes that nobody looked at are others now.
func spoil(r *rand.Rand, b []byte, seen map[uint32]int) []byte {
	other := slices.Clone(b)
	for i := range other {
		if seen[uint32(i)] == 0 {
			other[i] ^= byte(1 + r.Intn(255))
		}
	}
	return other
}

// reach: behind the last byte that was looked at.
func reach(seen map[uint32]int) int {
	n := 0
	for addr := range seen {
		n = max(n, int(addr)+1)
	}
	return n
}

func TestWhatIsNotLookedAt(t *testing.T) {
	r := rand.New(rand.NewSource(1208))
	for range 20000 {
		k, table, text := someBook(r)
		most := someOf(r, 0, 1, 5, 50)
		m := &model{b: k.b, seen: map[uint32]int{}}
		l, whole, e := m.plain(table, text, most)
		expectPlain(t, k.b, table, text, most, l, whole, e)
		expectPlain(t, spoil(r, k.b, m.seen), table, text, most, l, whole, e)
		// It need not be there, and there may be more.
		expectPlain(t, k.b[:reach(m.seen)], table, text, most, l, whole, e)
		if !m.short {
			expectPlain(t, append(slices.Clone(k.b), 0, 1, 2, 0xe0), table, text, most, l, whole, e)
		}
	}
}

// What has a part must be there: where memory ends ahead of a byte that is looked at, the text can't be told.
func TestWhatIsLookedAtMustBeThere(t *testing.T) {
	r := rand.New(rand.NewSource(12082))
	whole := map[bool]int{}
	for range 20000 {
		k, table, text := someBook(r)
		k.b[text] = someOf[byte](r, 0xe1, 0xe1, 0xe0, 0xe2)
		most := someOf(r, 0, 1, 2, 5, 50)
		m := &model{b: k.b, seen: map[uint32]int{}}
		_, isWhole, e := m.plain(table, text, most)
		if m.short {
			continue
		}
		if e == api.OK {
			whole[isWhole]++
		}
		expectPlain(t, k.b[:reach(m.seen)-1], table, text, most, nil, false, api.FatalRead)
	}
	if whole[true] < 500 || whole[false] < 500 {
		t.Error(whole)
	}
}

func TestWhatNextDoesNotLookAt(t *testing.T) {
	r := rand.New(rand.NewSource(12081))
	for range 20000 {
		k, table, text := someBook(r)
		at := api.TextAt{Kind: api.TextPacked, Addr: text + 1, Bit: uint32(r.Intn(8))}
		m := &model{b: k.b, seen: map[uint32]int{}}
		p, behind, e := m.next(table, at)
		if e != api.OK {
			continue
		}
		expectNext(t, spoil(r, k.b, m.seen), table, at, p, behind)
		expectNext(t, k.b[:reach(m.seen)], table, at, p, behind)
	}
}

func TestATablesFirstTwoNumbersHaveNoPart(t *testing.T) {
	alphabet := []uint32{'a', 'b', 0x20ac}
	l := []uint32{0x20ac, 'a', 'b'}
	table, _ := Table(16, alphabet...)
	packed, _ := Pack(alphabet, l)
	b := slices.Concat(make([]byte, 16), table, packed)
	addr := uint32(16 + len(table))
	copy(b[16:], bytes.Repeat([]byte{0xff}, 8))
	expectPlain(t, b, 16, addr, 9, l, true, api.OK)
}

// All calls end without a panic, whatever they are given.
func TestBytesByChance(t *testing.T) {
	r := rand.New(rand.NewSource(1209))
	for range 30000 {
		b := make([]byte, r.Intn(60))
		for i := range b {
			b[i] = someOf(r, byte(r.Intn(256)), byte(r.Intn(12)), byte(r.Intn(len(b))), 0, 0, 0, 0xe1)
		}
		addr := someOf(r, uint32(r.Intn(len(b)+1)), r.Uint32())
		table := someOf(r, uint32(r.Intn(len(b)+1)), top32-uint32(r.Intn(12)), r.Uint32())
		at, e := (&model{b: b}).begin(addr)
		expectBegin(t, b, addr, at, e)
		expectNextModel(t, b, table, api.TextAt{Kind: 0xe1, Addr: addr, Bit: uint32(r.Intn(9))})
		expectPlainModel(t, b, table, addr, r.Intn(40)-2)
	}
}
