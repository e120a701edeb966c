package text

import (
	"bytes"
	"math"
	"math/rand"
	"slices"
	"strings"
	"testing"

	"grotto/api"
)

// P12.1

func TestBeginOfEachKind(t *testing.T) {
	b := []byte{0, 0xe0, 0x61, 0, 0xe1, 5, 0xe2, 1, 2, 3, 0, 0, 0, 0}
	expectBegin(t, b, 1, api.TextAt{Kind: api.TextBytes, Addr: 2}, api.OK)
	expectBegin(t, b, 4, api.TextAt{Kind: api.TextPacked, Addr: 5}, api.OK)
	expectBegin(t, b, 6, api.TextAt{Kind: api.TextWords, Addr: 10}, api.OK)
}

func TestBeginOfEachFirstByte(t *testing.T) {
	step := map[int]uint32{0xe0: 1, 0xe1: 1, 0xe2: 4}
	for first := range 256 {
		for _, addr := range []uint32{0, 1, 9} {
			b := slices.Concat(make([]byte, addr), []byte{byte(first), 0xe0, 0xe1, 0xe2})
			if n, ok := step[first]; ok {
				expectBegin(t, b, addr, api.TextAt{Kind: first, Addr: addr + n}, api.OK)
			} else {
				expectBegin(t, b, addr, api.TextAt{}, api.FatalText)
			}
		}
	}
}

func TestBeginAtTheEnd(t *testing.T) {
	// Nothing but the first byte is looked at.
	expectBegin(t, []byte{7, 0xe0}, 1, api.TextAt{Kind: api.TextBytes, Addr: 2}, api.OK)
	expectBegin(t, []byte{7, 0xe1}, 1, api.TextAt{Kind: api.TextPacked, Addr: 2}, api.OK)
	expectBegin(t, []byte{7, 0xe2}, 1, api.TextAt{Kind: api.TextWords, Addr: 5}, api.OK)
	expectBegin(t, []byte{7, 0xe3}, 1, api.TextAt{}, api.FatalText)
}

func TestBeginWhereNothingIs(t *testing.T) {
	for _, b := range [][]byte{nil, {}, {0xe0}, {0xe0, 0xe1, 0xe2}} {
		n := uint32(len(b))
		for _, addr := range []uint32{n, n + 1, n + 4, 1 << 8, 1 << 16, 1<<31 - 1, 1 << 31, 1<<31 + 1, top32 - 8, top32 - 1, top32} {
			expectBegin(t, b, addr, api.TextAt{}, api.FatalRead)
		}
	}
}

// P12.2

func TestEachByte(t *testing.T) {
	for c := range 256 {
		b := []byte{9, byte(c), 9}
		want := api.Piece{Kind: api.PieceChars, Chars: []uint32{uint32(c)}}
		if c == 0 {
			want = api.Piece{Kind: api.PieceEnd}
		}
		for _, table := range []uint32{0, 1, top32} {
			expectNext(t, b, table, api.TextAt{Kind: api.TextBytes, Addr: 1}, want, api.TextAt{Kind: api.TextBytes, Addr: 2})
		}
		expectNext(t, b[:2], 0, api.TextAt{Kind: api.TextBytes, Addr: 1}, want, api.TextAt{Kind: api.TextBytes, Addr: 2})
	}
}

func TestNumbersAsCharacters(t *testing.T) {
	for _, c := range []uint32{1, 255, 256, 257, 0x100, 0x10000, 0x1000000, 0x20ac, 0x10ffff, 1 << 31, top32} {
		b := slices.Concat([]byte{1, 2, 3}, num(c))
		want := api.Piece{Kind: api.PieceChars, Chars: []uint32{c}}
		expectNext(t, b, 0, api.TextAt{Kind: api.TextWords, Addr: 3}, want, api.TextAt{Kind: api.TextWords, Addr: 7})
		expectNext(t, append(b, 0), top32, api.TextAt{Kind: api.TextWords, Addr: 3}, want, api.TextAt{Kind: api.TextWords, Addr: 7})
	}
	b := []byte{9, 0, 0, 0, 0, 9}
	expectNext(t, b, 0, api.TextAt{Kind: api.TextWords, Addr: 1}, api.Piece{Kind: api.PieceEnd}, api.TextAt{Kind: api.TextWords, Addr: 5})
}

func TestPlainPlacesThatAreNotThere(t *testing.T) {
	b := []byte{1, 2, 3, 4, 5, 6}
	for _, addr := range []uint32{6, 7, 1 << 16, 1<<31 - 1, 1 << 31, top32 - 3, top32} {
		expectNoNext(t, b, 0, api.TextAt{Kind: api.TextBytes, Addr: addr}, api.FatalRead)
		expectNoNext(t, b, 0, api.TextAt{Kind: api.TextWords, Addr: addr}, api.FatalRead)
		expectNoNext(t, nil, 0, api.TextAt{Kind: api.TextBytes, Addr: addr}, api.FatalRead)
	}
	for _, addr := range []uint32{3, 4, 5} {
		expectNoNext(t, b, 0, api.TextAt{Kind: api.TextWords, Addr: addr}, api.FatalRead)
	}
	expectNoNext(t, []byte{0, 0, 0}, 0, api.TextAt{Kind: api.TextWords}, api.FatalRead)
	expectNoNext(t, nil, 0, api.TextAt{Kind: api.TextBytes}, api.FatalRead)
}

func TestPlacesOfAnotherKind(t *testing.T) {
	b := bytes.Repeat([]byte{0x61, 0}, 20)
	for _, kind := range []int{0, 1, 2, 3, 0x60, 0xdf, 0xe3, 0xff, 0x1e0, 0x1e1, -0x20, -1, 1 << 32, 1<<32 + 0xe0, 1<<32 + 0xe1, math.MaxInt, math.MinInt, math.MinInt + 0xe0} {
		for _, addr := range []uint32{0, 1, 40, top32} {
			for _, table := range []uint32{0, 4, top32} {
				expectNoNext(t, b, table, api.TextAt{Kind: kind, Addr: addr}, api.FatalText)
			}
		}
	}
}

// leafCase is a leaf as the root: its bytes, the piece that it tells.
type leafCase struct {
	b []byte
	p api.Piece
}

// leaves: each kind of leaf; at pocket four bytes lie that tell 0x0badcafe.
func leaves(pocket uint32) []leafCase {
	text := func(l ...uint32) api.Piece { return api.Piece{Kind: api.PieceChars, Chars: l} }
	ref := func(addr uint32, args ...uint32) api.Piece {
		return api.Piece{Kind: api.PieceRef, Addr: addr, Args: args}
	}
	far := num(pocket)
	return []leafCase{
		{[]byte{1}, api.Piece{Kind: api.PieceEnd}},
		{[]byte{2, 0x61}, text(0x61)},
		{[]byte{2, 0}, text(0)},
		{[]byte{2, 255}, text(255)},
		{[]byte{3, 0}, text()},
		{[]byte{3, 0x61, 0}, text(0x61)},
		{[]byte{3, 0xff, 1, 0x80, 0}, text(0xff, 1, 0x80)},
		{append([]byte{4}, num(0x20ac)...), text(0x20ac)},
		{append([]byte{4}, num(0)...), text(0)},
		{append([]byte{4}, num(255)...), text(255)},
		{append([]byte{4}, num(256)...), text(256)},
		{append([]byte{4}, num(top32)...), text(top32)},
		{append([]byte{5}, num(0)...), text()},
		{append([]byte{5}, num(0x20ac, 0)...), text(0x20ac)},
		{append([]byte{5}, num(256, 1, 0x1000000, top32, 0)...), text(256, 1, 0x1000000, top32)},
		{append([]byte{8}, num(0)...), ref(0)},
		{append([]byte{8}, num(top32)...), ref(top32)},
		{append([]byte{8}, num(0x01020304)...), ref(0x01020304)},
		{append([]byte{9}, far...), ref(0x0badcafe)},
		{append([]byte{10}, num(7, 0)...), ref(7)},
		{append([]byte{10}, num(top32, 1, 0)...), ref(top32, 0)},
		{append([]byte{10}, num(7, 3, 1, top32, 0x01020304)...), ref(7, 1, top32, 0x01020304)},
		{slices.Concat([]byte{11}, far, num(0)), ref(0x0badcafe)},
		{slices.Concat([]byte{11}, far, num(1, 9)), ref(0x0badcafe, 9)},
		{slices.Concat([]byte{11}, far, num(2, 0, 1<<31)), ref(0x0badcafe, 0, 1<<31)},
	}
}

// leafBook: a memory with a table and behind all else one leaf, the root.
func leafBook(leaf func(pocket uint32) []byte) (b []byte, table uint32) {
	k := newBook()
	pocket := k.lay(num(0x0badcafe))
	table = k.table(uint32(len(k.b) + 12))
	k.lay(leaf(pocket))
	return k.b, table
}

func TestEachLeafAtTheVeryEnd(t *testing.T) {
	for i, c := range leaves(0) {
		b, table := leafBook(func(pocket uint32) []byte { return leaves(pocket)[i].b })
		// The root is a leaf: no bit is taken, and the text's own bytes are not looked at.
		for _, at := range []api.TextAt{{Kind: api.TextPacked}, {Kind: api.TextPacked, Addr: 3, Bit: 7}, {Kind: api.TextPacked, Addr: uint32(len(b)), Bit: 1}, {Kind: api.TextPacked, Addr: top32, Bit: 7}} {
			expectNext(t, b, table, at, c.p, at)
			expectNext(t, append(slices.Clone(b), 5, 5, 5, 5), table, at, c.p, at)
		}
		for n := range c.b {
			expectNoNext(t, b[:len(b)-len(c.b)+n], table, api.TextAt{Kind: api.TextPacked}, api.FatalRead)
		}
	}
}

func TestNodesOfOtherNumbers(t *testing.T) {
	known := []int{0, 1, 2, 3, 4, 5, 8, 9, 10, 11}
	for kind := range 256 {
		b, table := leafBook(func(uint32) []byte { return []byte{byte(kind)} })
		switch {
		case kind == 1:
			expectNext(t, b, table, api.TextAt{Kind: api.TextPacked}, api.Piece{Kind: api.PieceEnd}, api.TextAt{Kind: api.TextPacked})
		case slices.Contains(known, kind):
			expectNoNext(t, b, table, api.TextAt{Kind: api.TextPacked}, api.FatalRead)
		default:
			expectNoNext(t, b, table, api.TextAt{Kind: api.TextPacked}, api.FatalText)
			expectNoNext(t, append(b, make([]byte, 40)...), table, api.TextAt{Kind: api.TextPacked}, api.FatalText)
		}
	}
}

func TestFarNumbersThatAreNotThere(t *testing.T) {
	for _, kind := range []byte{9, 11} {
		for _, where := range []uint32{1 << 16, 1<<31 - 1, 1 << 31, top32 - 3, top32 - 1, top32} {
			b, table := leafBook(func(uint32) []byte { return slices.Concat([]byte{kind}, num(where, 0)) })
			expectNoNext(t, b, table, api.TextAt{Kind: api.TextPacked}, api.FatalRead)
		}
		b, table := leafBook(func(uint32) []byte { return slices.Concat([]byte{kind}, num(0, 0)) })
		at := uint32(len(b) - 8)
		for short := range uint32(4) {
			// It lies where memory ends: whole, or without its last bytes.
			copy(b[at:], num(uint32(len(b))-4+short))
			if short == 0 {
				expectNext(t, b, table, api.TextAt{Kind: api.TextPacked}, api.Piece{Kind: api.PieceRef}, api.TextAt{Kind: api.TextPacked})
			} else {
				expectNoNext(t, b, table, api.TextAt{Kind: api.TextPacked}, api.FatalRead)
			}
		}
	}
}

func TestTooManyArguments(t *testing.T) {
	for _, kind := range []byte{10, 11} {
		for _, n := range []uint32{3, 4, 1 << 16, 1 << 30, 1<<30 + 2, 1 << 31, top32} {
			b, table := leafBook(func(pocket uint32) []byte { return slices.Concat([]byte{kind}, num(pocket, n, 5, 6)) })
			expectNoNext(t, b, table, api.TextAt{Kind: api.TextPacked}, api.FatalRead)
		}
	}
}

func TestBitsChoose(t *testing.T) {
	k := newBook()
	left, right := k.bytesNode(2, 'l'), k.bytesNode(2, 'r')
	table := k.table(k.node(0, left, right))
	pattern := []byte{0xa5, 0x0f, 0x80, 0x01, 0x33}
	text := k.lay(pattern)
	for i, c := range pattern {
		for bit := range uint32(8) {
			want := uint32('l')
			if c>>bit&1 == 1 {
				want = 'r'
			}
			at := api.TextAt{Kind: api.TextPacked, Addr: text + uint32(i), Bit: bit}
			behind := api.TextAt{Kind: api.TextPacked, Addr: at.Addr, Bit: bit + 1}
			if bit == 7 {
				behind = api.TextAt{Kind: api.TextPacked, Addr: at.Addr + 1}
			}
			expectNext(t, k.b, table, at, api.Piece{Kind: api.PieceChars, Chars: []uint32{want}}, behind)
		}
	}
}

func TestBitsOverTheByteEnd(t *testing.T) {
	// A tree of eleven branches: the only way to the leaf x is 10110011010.
	const way = "10110011010"
	k := newBook()
	node := k.bytesNode(2, 'x')
	wrong := k.bytesNode(2, 'w')
	for i := len(way) - 1; i >= 0; i-- {
		if way[i] == '0' {
			node = k.node(0, node, wrong)
		} else {
			node = k.node(0, wrong, node)
		}
	}
	table := k.table(node)
	for ahead := range 24 {
		text := k.bits(strings.Repeat("0", ahead) + way)
		n := uint32(ahead)
		at := api.TextAt{Kind: api.TextPacked, Addr: text + 1 + n/8, Bit: n % 8}
		n += uint32(len(way))
		behind := api.TextAt{Kind: api.TextPacked, Addr: text + 1 + n/8, Bit: n % 8}
		expectNext(t, k.b, table, at, api.Piece{Kind: api.PieceChars, Chars: []uint32{'x'}}, behind)
		expectNoNext(t, k.b[:len(k.b)-1], table, at, api.FatalRead)
	}
}

// rowOfBranches: n branches one behind the other, the bit 0 leading on to the end.
func rowOfBranches(k *book, n int) uint32 {
	node := k.bytesNode(1)
	wrong := k.bytesNode(7)
	for range n {
		node = k.node(0, node, wrong)
	}
	return node
}

func TestMostBranches(t *testing.T) {
	for _, bit := range []uint32{0, 1, 7} {
		for n := api.MaxBranches - 2; n <= api.MaxBranches+2; n++ {
			k := newBook()
			table := k.table(rowOfBranches(k, n))
			text := k.lay(make([]byte, 40))
			at := api.TextAt{Kind: api.TextPacked, Addr: text, Bit: bit}
			end := uint32(n) + bit
			if n <= api.MaxBranches {
				expectNext(t, k.b, table, at, api.Piece{Kind: api.PieceEnd}, api.TextAt{Kind: api.TextPacked, Addr: text + end/8, Bit: end % 8})
			} else {
				expectNoNext(t, k.b, table, at, api.FatalText)
			}
		}
	}
}

func TestBranchesInACircle(t *testing.T) {
	k := newBook()
	self := uint32(len(k.b))
	table := k.table(k.node(0, self, self))
	text := k.lay(bytes.Repeat([]byte{0x5a}, 32))
	at := api.TextAt{Kind: api.TextPacked, Addr: text}
	// The bits of 32 bytes are just MaxBranches: the branch behind them is one too many, whether there is a bit for it or not.
	expectNoNext(t, k.b, table, at, api.FatalText)
	expectNoNext(t, append(slices.Clone(k.b), 0), table, at, api.FatalText)
	expectNoNext(t, k.b[:len(k.b)-1], table, at, api.FatalRead)
	at.Bit = 1
	expectNoNext(t, k.b, table, at, api.FatalRead)
}

func TestBranchAtTheVeryEnd(t *testing.T) {
	k := newBook()
	left, right := k.bytesNode(2, 'l'), k.bytesNode(1)
	text := k.lay([]byte{2})
	table := k.table(uint32(len(k.b) + 12))
	k.node(0, left, right)
	toLeft := api.TextAt{Kind: api.TextPacked, Addr: text}
	toRight := api.TextAt{Kind: api.TextPacked, Addr: text, Bit: 1}
	expectNext(t, k.b, table, toLeft, api.Piece{Kind: api.PieceChars, Chars: []uint32{'l'}}, toRight)
	expectNext(t, k.b, table, toRight, api.Piece{Kind: api.PieceEnd}, api.TextAt{Kind: api.TextPacked, Addr: text, Bit: 2})
	for short := 1; short <= 9; short++ {
		cut := k.b[:len(k.b)-short]
		expectNoNext(t, cut, table, toRight, api.FatalRead)
		// The right one's address is not looked at by one who goes to the left.
		if short <= 4 {
			expectNext(t, cut, table, toLeft, api.Piece{Kind: api.PieceChars, Chars: []uint32{'l'}}, toRight)
		} else {
			expectNoNext(t, cut, table, toLeft, api.FatalRead)
		}
	}
}

func TestBranchesToWhatIsNotThere(t *testing.T) {
	for _, where := range []uint32{1 << 12, 1<<31 - 1, 1 << 31, top32 - 8, top32} {
		k := newBook()
		end := k.bytesNode(1)
		table := k.table(k.node(0, where, end))
		text := k.lay([]byte{2})
		expectNoNext(t, k.b, table, api.TextAt{Kind: api.TextPacked, Addr: text}, api.FatalRead)
		expectNext(t, k.b, table, api.TextAt{Kind: api.TextPacked, Addr: text, Bit: 1}, api.Piece{Kind: api.PieceEnd}, api.TextAt{Kind: api.TextPacked, Addr: text, Bit: 2})
		for _, addr := range []uint32{uint32(len(k.b)), 1 << 31, top32} {
			expectNoNext(t, k.b, table, api.TextAt{Kind: api.TextPacked, Addr: addr}, api.FatalRead)
		}
	}
}

func TestTablesThatAreNotThere(t *testing.T) {
	k := newBook()
	end := k.bytesNode(1)
	table := k.table(end)
	at := api.TextAt{Kind: api.TextPacked, Addr: end}
	expectNext(t, k.b, table, at, api.Piece{Kind: api.PieceEnd}, at)
	for n := range 12 {
		expectNoNext(t, k.b[:len(k.b)-1-n], table, at, api.FatalRead)
	}
	for _, table := range []uint32{table + 1, table + 4, table + 12, 1 << 16, 1<<31 - 1, 1 << 31, top32 - 11, top32 - 8} {
		expectNoNext(t, k.b, table, at, api.FatalRead)
	}
	expectNoNext(t, nil, 1, at, api.FatalRead)
	for _, where := range []uint32{uint32(len(k.b)) + 12, 1 << 31, top32} {
		table := k.table(where)
		expectNoNext(t, k.b, table, at, api.FatalRead)
	}
}

func TestTableThatIsZero(t *testing.T) {
	b := slices.Concat(num(0, 0, 12), []byte{1, 0})
	at := api.TextAt{Kind: api.TextPacked, Addr: 13}
	expectNoNext(t, b, 0, at, api.FatalText)
	expectNoNext(t, nil, 0, at, api.FatalText)
	b = append([]byte{9}, b...)
	expectNoNext(t, b, 0, at, api.FatalText)
	b[12] = 13
	expectNext(t, b, 1, at, api.Piece{Kind: api.PieceEnd}, at)
}

func TestTablesNearTheLastAddress(t *testing.T) {
	// Behind the last address the first one follows: the root's address is found there.
	for ahead := range uint32(8) {
		b := slices.Concat(make([]byte, ahead), num(ahead+4), []byte{2, 'x'})
		at := api.TextAt{Kind: api.TextPacked, Addr: 3, Bit: 3}
		table := top32 - 7 + ahead
		expectNext(t, b, table, at, api.Piece{Kind: api.PieceChars, Chars: []uint32{'x'}}, at)
		expectNoNext(t, b, table-9, at, api.FatalRead)
	}
}

func TestBitsAboveSeven(t *testing.T) {
	k := newBook()
	end := k.bytesNode(1)
	leaf := k.table(end)
	tree := k.table(k.node(0, end, end))
	text := k.lay(make([]byte, 8))
	for _, bit := range []uint32{8, 9, 15, 16, 31, 32, 33, 64, 256, 1 << 31, top32 - 7, top32} {
		for _, table := range []uint32{leaf, tree} {
			expectNoNext(t, k.b, table, api.TextAt{Kind: api.TextPacked, Addr: text, Bit: bit}, api.FatalText)
		}
	}
	expectNext(t, k.b, leaf, api.TextAt{Kind: api.TextPacked, Addr: text, Bit: 7}, api.Piece{Kind: api.PieceEnd}, api.TextAt{Kind: api.TextPacked, Addr: text, Bit: 7})
}

func TestFirstErrorOfNext(t *testing.T) {
	k := newBook()
	text := k.lay([]byte{0})
	table := k.table(k.bytesNode(0x70))
	for _, c := range []struct {
		table uint32
		at    api.TextAt
		e     api.Errno
	}{
		{0, api.TextAt{Kind: api.TextPacked, Addr: top32}, api.FatalText},              // no table, ahead of a place that is not there
		{0, api.TextAt{Kind: api.TextPacked, Addr: top32, Bit: 8}, api.FatalText},      //
		{1 << 20, api.TextAt{Kind: api.TextPacked, Addr: text}, api.FatalRead},         //
		{1 << 20, api.TextAt{Kind: api.TextPacked, Addr: top32}, api.FatalRead},        //
		{1 << 20, api.TextAt{Kind: api.TextPacked, Addr: text, Bit: 8}, api.FatalRead}, // the table is not there, ahead of the bit
		{table, api.TextAt{Kind: api.TextPacked, Addr: top32}, api.FatalText},          // a node of no kind, ahead of the bits that nobody asks for
		{1 << 20, api.TextAt{Kind: 7, Addr: top32}, api.FatalText},                     // another kind, ahead of all that is not there
	} {
		expectNoNext(t, k.b, c.table, c.at, c.e)
	}
}

func TestNextByChance(t *testing.T) {
	r := rand.New(rand.NewSource(1202))
	seen := map[api.Errno]int{}
	for range 60000 {
		k, table, text := someBook(r)
		b := k.b[:someOf(r, len(k.b), len(k.b), r.Intn(len(k.b)+1))]
		if r.Intn(20) == 0 {
			table = someOf(r, 0, uint32(r.Intn(len(k.b))), top32-uint32(r.Intn(16)), r.Uint32())
		}
		at := api.TextAt{
			Kind: someOf(r, 0xe1, 0xe1, 0xe1, 0xe1, 0xe0, 0xe2, r.Intn(300)-20),
			Addr: someOf(r, text+1, text+1, text+uint32(r.Intn(40)), uint32(r.Intn(len(k.b)+8)), top32-uint32(r.Intn(5))),
			Bit:  uint32(r.Intn(8)),
		}
		if at.Kind != 0xe1 {
			at.Bit = 0
		} else if r.Intn(30) == 0 {
			at.Bit = someOf(r, 8, 9, r.Uint32())
		}
		seen[expectNextModel(t, b, table, at)]++
	}
	for _, e := range []api.Errno{api.OK, api.FatalRead, api.FatalText} {
		if seen[e] < 1000 {
			t.Errorf("%d: %d times", e, seen[e])
		}
	}
}

func TestNextSharesNothing(t *testing.T) {
	k := newBook()
	l := k.bytesNode(3, 1, 2, 3, 0)
	n := k.node(5, 1, 2, 3, 0)
	a := k.node(10, 7, 3, 1, 2, 3)
	want := []uint32{1, 2, 3}
	for _, root := range []uint32{l, n, a} {
		table := k.table(root)
		was := slices.Clone(k.b)
		one, _, _ := Next(k.b, table, api.TextAt{Kind: api.TextPacked})
		two, _, _ := Next(k.b, table, api.TextAt{Kind: api.TextPacked})
		for _, l := range [][]uint32{one.Chars, one.Args} {
			for i := range l[:cap(l)] {
				l[:cap(l)][i] = 99
			}
		}
		if !slices.Equal(append(two.Chars, two.Args...), want) || !bytes.Equal(k.b, was) {
			t.Error(root, two, k.b)
		}
	}
}

// P12.3

func TestPlainOfEachKind(t *testing.T) {
	k := newBook()
	table := k.table(k.node(0, k.bytesNode(1), k.node(0, k.bytesNode(3, 'h', 'i', 0), k.node(4, 0x20ac))))
	for _, c := range []struct {
		addr uint32
		want []uint32
	}{
		{k.lay([]byte{0xe0, 'a', 'b', 0}), []uint32{'a', 'b'}},
		{k.lay([]byte{0xe0, 0}), nil},
		{k.lay([]byte{0xe0, 0xff, 0x80, 1, 0}), []uint32{0xff, 0x80, 1}},
		{k.lay([]byte{0xe2, 9, 9, 9}, num('a', 0x20ac, 0x1000000, top32, 0)), []uint32{'a', 0x20ac, 0x1000000, top32}},
		{k.lay([]byte{0xe2, 0, 0, 0}, num(0)), nil},
		{k.bits("0"), nil},
		{k.bits("10" + "11" + "10" + "0"), []uint32{'h', 'i', 0x20ac, 'h', 'i'}},
	} {
		for _, most := range []int{len(c.want), len(c.want) + 1, 100, 1 << 32, math.MaxInt} {
			expectPlain(t, k.b, table, c.addr, most, c.want, true, api.OK)
		}
		for most := range c.want {
			expectPlain(t, k.b, table, c.addr, most, c.want[:most], false, api.OK)
		}
		for _, most := range []int{0, -1, -100, math.MinInt} {
			expectPlain(t, k.b, table, c.addr, most, nil, len(c.want) == 0, api.OK)
		}
	}
}

func TestPlainAtTheVeryEnd(t *testing.T) {
	text := []byte{7, 0xe0, 'a', 'b', 0}
	expectPlain(t, text, 0, 1, 9, []uint32{'a', 'b'}, true, api.OK)
	words := slices.Concat([]byte{0xe2, 0, 0, 0}, num('a', 'b', 0))
	expectPlain(t, words, 0, 0, 9, []uint32{'a', 'b'}, true, api.OK)
	for n := 2; n < len(text); n++ {
		expectPlain(t, text[:n], 0, 1, 9, nil, false, api.FatalRead)
	}
	for n := 1; n < len(words); n++ {
		expectPlain(t, words[:n], 0, 0, 9, nil, false, api.FatalRead)
	}
	k := newBook()
	table := k.table(k.node(0, k.bytesNode(1), k.bytesNode(2, 'x')))
	addr := k.bits(strings.Repeat("1", 15) + "0")
	x := slices.Repeat([]uint32{'x'}, 15)
	expectPlain(t, k.b, table, addr, 99, x, true, api.OK)
	expectPlain(t, k.b[:len(k.b)-1], table, addr, 99, nil, false, api.FatalRead)
	expectPlain(t, k.b[:len(k.b)-2], table, addr, 99, nil, false, api.FatalRead)
	expectPlain(t, k.b[:len(k.b)-3], table, addr, 99, nil, false, api.FatalRead)
}

func TestPlainOfWhatIsNoText(t *testing.T) {
	b := []byte{0xe0, 'a', 0, 0xe3, 0xe1, 0}
	for _, most := range []int{-1, 0, 1, 9} {
		for _, addr := range []uint32{6, 7, 1 << 31, top32} {
			expectPlain(t, b, 1, addr, most, nil, false, api.FatalRead)
		}
		for _, addr := range []uint32{1, 2, 3, 5} {
			expectPlain(t, b, 1, addr, most, nil, false, api.FatalText)
		}
		expectPlain(t, nil, 1, 0, most, nil, false, api.FatalRead)
	}
	expectPlain(t, b, 0, 4, 1, nil, false, api.FatalText) // without a table
	expectPlain(t, b, 1, 4, 1, nil, false, api.FatalRead) // the table is not there
	expectPlain(t, nil, 0, 0, 1, nil, false, api.FatalRead)
}

// turns: a table in which 00 is the end, 01 is ab, 10 is nothing, 110 a reference, 1110 a node of no kind, 1111 a node that is not there.
func turns(k *book) uint32 {
	wrong := k.node(0, k.bytesNode(7), 1<<20)
	right := k.node(0, k.bytesNode(3, 0), k.node(0, k.node(8, 4), wrong))
	return k.table(k.node(0, k.node(0, k.bytesNode(1), k.bytesNode(3, 'a', 'b', 0)), right))
}

func TestPlainAndWhatIsWrong(t *testing.T) {
	k := newBook()
	table := turns(k)
	abab := []uint32{'a', 'b', 'a', 'b'}
	for way, e := range map[string]api.Errno{"110": api.ErrNone, "1110": api.FatalText, "1111": api.FatalRead} {
		addr := k.bits("01" + "01" + way + "01" + "00")
		for _, most := range []int{5, 6, 99} {
			expectPlain(t, k.b, table, addr, most, nil, false, e)
		}
		// What is wrong is not met, if there are more characters than asked for ahead of it.
		for _, most := range []int{3, 2, 1, 0, -1} {
			expectPlain(t, k.b, table, addr, most, abab[:max(most, 0)], false, api.OK)
		}
		// With just so many ahead of it the next piece is asked for: a reference is one, though not the end.
		first := k.bits(way)
		if e == api.ErrNone {
			expectPlain(t, k.b, table, addr, 4, abab, false, api.OK)
			expectPlain(t, k.b, table, first, 0, nil, false, api.OK)
		} else {
			expectPlain(t, k.b, table, addr, 4, nil, false, e)
			expectPlain(t, k.b, table, first, 0, nil, false, e)
		}
	}
	// Of two that are wrong the one ahead.
	expectPlain(t, k.b, table, k.bits("110"+"1111"), 9, nil, false, api.ErrNone)
	expectPlain(t, k.b, table, k.bits("1110"+"110"), 9, nil, false, api.FatalText)
	expectPlain(t, k.b, table, k.bits("1111"+"1110"), 9, nil, false, api.FatalRead)
}

func TestPlainOfEachReference(t *testing.T) {
	for _, leaf := range [][]byte{
		append([]byte{8}, num(4)...),
		append([]byte{9}, num(4)...),
		append([]byte{10}, num(4, 1, 1)...),
		append([]byte{11}, num(4, 1, 1)...),
	} {
		k := newBook()
		table := k.table(k.lay(leaf))
		expectPlain(t, k.b, table, k.bits("0"), 9, nil, false, api.ErrNone)
	}
}

func TestJustSoMany(t *testing.T) {
	k := newBook()
	table := turns(k)
	ab := []uint32{'a', 'b'}
	expectPlain(t, k.b, table, k.bits("01"+"00"), 2, ab, true, api.OK)
	// The end must come as the next piece, without one between that has no characters.
	empty := k.bits("01" + "10" + "00")
	expectPlain(t, k.b, table, empty, 2, ab, false, api.OK)
	expectPlain(t, k.b, table, empty, 3, ab, true, api.OK)
	expectPlain(t, k.b, table, k.bits("10"+"00"), 0, nil, false, api.OK)
	expectPlain(t, k.b, table, k.bits("10"+"00"), 1, nil, true, api.OK)
	expectPlain(t, k.b, table, k.bits("10"+"01"+"00"), 2, ab, true, api.OK)
	// A piece of which only some characters are asked for.
	expectPlain(t, k.b, table, k.bits("01"+"01"+"00"), 3, []uint32{'a', 'b', 'a'}, false, api.OK)
}

// Whether a text is whole with just so many is told by the next piece: what that lies in must be there.
func TestJustSoManyWhereMemoryEnds(t *testing.T) {
	for n := range 5 {
		x := slices.Repeat([]uint32{'x'}, n)
		text := append([]byte{0xe0}, bytes.Repeat([]byte{'x'}, n)...)
		expectPlain(t, append(slices.Clone(text), 0), 0, 0, n, x, true, api.OK)
		expectPlain(t, append(slices.Clone(text), 'y'), 0, 0, n, x, false, api.OK)
		expectPlain(t, text, 0, 0, n, nil, false, api.FatalRead)
		expectPlain(t, text, 0, 0, n+1, nil, false, api.FatalRead)
		words := slices.Concat([]byte{0xe2, 0, 0, 0}, num(x...))
		expectPlain(t, append(slices.Clone(words), 0, 0, 0, 0), 0, 0, n, x, true, api.OK)
		expectPlain(t, append(slices.Clone(words), 0, 0, 0, 1), 0, 0, n, x, false, api.OK)
		for some := range 4 {
			expectPlain(t, append(slices.Clone(words), make([]byte, some)...), 0, 0, n, nil, false, api.FatalRead)
		}
		for most := range n {
			expectPlain(t, text, 0, 0, most, x[:most], false, api.OK)
			expectPlain(t, words, 0, 0, most, x[:most], false, api.OK)
		}
	}
	for _, most := range []int{-1, 0} {
		expectPlain(t, []byte{0xe0}, 0, 0, most, nil, false, api.FatalRead)
		expectPlain(t, []byte{0xe2}, 0, 0, most, nil, false, api.FatalRead)
		expectPlain(t, []byte{0xe1}, 1, 0, most, nil, false, api.FatalRead)
		// Without a table no byte behind the first one is looked at.
		expectPlain(t, []byte{0xe1}, 0, 0, most, nil, false, api.FatalText)
	}
}

func TestJustSoManyWhereThePackedTextEnds(t *testing.T) {
	k := newBook()
	table := k.table(k.node(0, k.bytesNode(1), k.bytesNode(2, 'x')))
	addr := uint32(len(k.b))
	for _, n := range []int{0, 8, 16, 24} {
		x := slices.Repeat([]uint32{'x'}, n)
		text := slices.Concat(k.b, []byte{0xe1}, bytes.Repeat([]byte{0xff}, n/8))
		expectPlain(t, append(slices.Clone(text), 0xfe), table, addr, n, x, true, api.OK)
		expectPlain(t, append(slices.Clone(text), 0x01), table, addr, n, x, false, api.OK)
		expectPlain(t, text, table, addr, n, nil, false, api.FatalRead)
		if n > 0 {
			// The next bit lies in a byte that is there, up to the last one.
			expectPlain(t, text, table, addr, n-1, x[:n-1], false, api.OK)
		}
	}
}

// The next piece's nodes must be there, too, all of the leaf.
func TestJustSoManyWhereTheNextLeafEnds(t *testing.T) {
	for _, leaf := range [][]byte{
		{1},
		{2, 'y'},
		{3, 'y', 'z', 0},
		append([]byte{4}, num('y')...),
		append([]byte{5}, num('y', 0)...),
		append([]byte{8}, num(7)...),
		append([]byte{9}, num(0)...),
		append([]byte{10}, num(7, 1, 7)...),
		append([]byte{11}, num(0, 1, 7)...),
	} {
		k := newBook()
		x := k.bytesNode(2, 'x')
		addr := k.bits("01")
		root := k.node(0, x, uint32(len(k.b))+9+12)
		table := k.table(root)
		k.lay(leaf)
		expectPlain(t, k.b, table, addr, 1, []uint32{'x'}, leaf[0] == 1, api.OK)
		for n := 1; n <= len(leaf); n++ {
			cut := k.b[:len(k.b)-n]
			expectPlain(t, cut, table, addr, 1, nil, false, api.FatalRead)
			expectPlain(t, cut, table, addr, 0, nil, false, api.OK)
		}
	}
}

func TestPiecesWithoutCharacters(t *testing.T) {
	const none, ab, end = "10", "01", "00"
	once, twice := []uint32{'a', 'b'}, []uint32{'a', 'b', 'a', 'b'}
	for n := range api.MaxBranches + 3 {
		k := newBook()
		table := turns(k)
		some := strings.Repeat(none, n)
		// Behind those that end it nothing that is wrong is met.
		wrong := k.bits(ab + some + "1110")
		if n > api.MaxBranches {
			expectPlain(t, k.b, table, k.bits(some+end), 9, nil, false, api.OK)
			expectPlain(t, k.b, table, k.bits(ab+some+end), 9, once, false, api.OK)
			expectPlain(t, k.b, table, k.bits(ab+some+ab+end), 9, once, false, api.OK)
			expectPlain(t, k.b, table, wrong, 9, once, false, api.OK)
			continue
		}
		expectPlain(t, k.b, table, k.bits(some+end), 9, nil, true, api.OK)
		expectPlain(t, k.b, table, k.bits(ab+some+end), 9, once, true, api.OK)
		expectPlain(t, k.b, table, k.bits(ab+some+ab+end), 9, twice, true, api.OK)
		expectPlain(t, k.b, table, wrong, 9, nil, false, api.FatalText)
		// Only those that come one behind the other count.
		expectPlain(t, k.b, table, k.bits(some+ab+some+ab+some+end), 9, twice, true, api.OK)
	}
}

func TestRootsThatTakeNoBit(t *testing.T) {
	for _, c := range []struct {
		leaf []byte
		one  []uint32
	}{
		{[]byte{2, 'x'}, []uint32{'x'}},
		{[]byte{3, 'x', 'y', 0}, []uint32{'x', 'y'}},
		{append([]byte{5}, num(256, 0)...), []uint32{256}},
		{[]byte{3, 0}, nil},
		{append([]byte{5}, num(0)...), nil},
	} {
		k := newBook()
		table := k.table(k.lay(c.leaf))
		addr := k.lay([]byte{0xe1})
		for _, most := range []int{0, 1, 2, 3, 1000, 1001} {
			want := slices.Repeat(c.one, most)
			expectPlain(t, k.b, table, addr, most, want[:min(most, len(want))], false, api.OK)
		}
		if c.one == nil {
			expectPlain(t, k.b, table, addr, math.MaxInt, nil, false, api.OK)
		}
	}
	k := newBook()
	table := k.table(k.bytesNode(1))
	expectPlain(t, k.b, table, k.lay([]byte{0xe1}), 9, nil, true, api.OK)
}

func TestPlainByChance(t *testing.T) {
	r := rand.New(rand.NewSource(1203))
	seen := map[api.Errno]int{}
	ended := map[bool]int{}
	for range 40000 {
		k, table, text := someBook(r)
		k.b[text] = someOf[byte](r, 0xe1, 0xe1, 0xe1, 0xe0, 0xe2, byte(r.Intn(256)))
		b := k.b[:someOf(r, len(k.b), len(k.b), len(k.b), r.Intn(len(k.b)+1))]
		addr := someOf(r, text, text, text, text, text, uint32(r.Intn(len(k.b)+2)), top32-uint32(r.Intn(3)))
		whole, e := expectPlainModel(t, b, table, addr, someOf(r, -1, 0, 1, 2, 3, r.Intn(10), r.Intn(200)))
		seen[e]++
		ended[whole]++
	}
	for _, e := range []api.Errno{api.OK, api.FatalRead, api.FatalText, api.ErrNone} {
		if seen[e] < 500 {
			t.Errorf("%d: %d times", e, seen[e])
		}
	}
	if ended[true] < 500 {
		t.Error(ended)
	}
}

func TestPlainSharesNothing(t *testing.T) {
	k := newBook()
	table := turns(k)
	addr := k.bits("01" + "01" + "00")
	was := slices.Clone(k.b)
	one, _, _ := Plain(k.b, table, addr, 9)
	two, _, _ := Plain(k.b, table, addr, 9)
	for i := range one[:cap(one)] {
		one[:cap(one)][i] = 99
	}
	if !slices.Equal(two, []uint32{'a', 'b', 'a', 'b'}) || !bytes.Equal(k.b, was) {
		t.Error(two, k.b)
	}
}

// P12.4

func expectTable(t *testing.T, at uint32, alphabet []uint32, want []byte) {
	t.Helper()
	if b, e := Table(at, alphabet...); !bytes.Equal(b, want) || e != api.OK {
		t.Errorf("Table(%x, %.20x): %.200x, %d; want %.200x", at, alphabet, b, e, want)
	}
}

func expectNoTable(t *testing.T, alphabet []uint32, want api.Errno) {
	t.Helper()
	for _, at := range []uint32{0, 100, top32} {
		if b, e := Table(at, alphabet...); len(b) != 0 || e != want {
			t.Errorf("Table(%x, %.20x): %.20x, %d; want %d", at, alphabet, b, e, want)
		}
	}
	if b, e := Pack(alphabet, nil); len(b) != 0 || e != want {
		t.Errorf("Pack(%.20x): %x, %d; want %d", alphabet, b, e, want)
	}
	// A character that is not there comes behind what is wrong with the alphabet.
	if b, e := Pack(alphabet, []uint32{0xfedcba98}); len(b) != 0 || e != want {
		t.Errorf("Pack(%.20x): %x, %d; want %d", alphabet, b, e, want)
	}
}

func TestTablesOfFewCharacters(t *testing.T) {
	expectTable(t, 0, nil, slices.Concat(num(23, 3, 12), []byte{0}, num(21, 22), []byte{1, 1}))
	expectTable(t, 0, []uint32{0x61}, slices.Concat(num(24, 3, 12), []byte{0}, num(21, 22), []byte{1, 2, 0x61}))
	expectTable(t, 1000, []uint32{0x20ac}, slices.Concat(num(27, 3, 1012), []byte{0}, num(1021, 1022), []byte{1, 4, 0, 0, 0x20, 0xac}))
	expectTable(t, 0, []uint32{7, 300}, slices.Concat(num(38, 5, 12), []byte{0}, num(21, 22), []byte{1, 0}, num(31, 33), []byte{2, 7, 4, 0, 0, 1, 44}))
	expectTable(t, 100, []uint32{'x', 0x20ac, 'y'}, slices.Concat(num(49, 7, 112),
		[]byte{0}, num(121, 122), []byte{1},
		[]byte{0}, num(131, 133), []byte{2, 'x'},
		[]byte{0}, num(142, 147), []byte{4, 0, 0, 0x20, 0xac}, []byte{2, 'y'}))
	// Of four: all that is behind the left one lies ahead of the right one.
	expectTable(t, 0, []uint32{1, 2, 3, 4}, slices.Concat(num(57, 9, 12),
		[]byte{0}, num(21, 22), []byte{1},
		[]byte{0}, num(31, 44),
		[]byte{0}, num(40, 42), []byte{2, 1, 2, 2},
		[]byte{0}, num(53, 55), []byte{2, 3, 2, 4}))
}

func TestCharactersAround256(t *testing.T) {
	for _, c := range []uint32{0, 1, 254, 255} {
		expectTable(t, 0, []uint32{c}, slices.Concat(num(24, 3, 12), []byte{0}, num(21, 22), []byte{1, 2, byte(c)}))
	}
	for _, c := range []uint32{256, 257, 511, 512, 0xff00, 0x10000, 1 << 24, 1 << 31, top32} {
		expectTable(t, 0, []uint32{c}, slices.Concat(num(27, 3, 12), []byte{0}, num(21, 22), []byte{1, 4}, num(c)))
	}
}

func TestTablesOfEachSize(t *testing.T) {
	r := rand.New(rand.NewSource(1204))
	sizes := []int{100, 127, 128, 129, 255, 256, 257, 511, 512, 513, api.MaxAlphabet - 1, api.MaxAlphabet}
	for n := range 40 {
		sizes = append(sizes, n)
	}
	for _, n := range sizes {
		for _, at := range []uint32{0, 1, 256, r.Uint32(), top32, top32 - 11, top32 - 12, top32 - 20, top32 - 21, top32 - 22, top32 - uint32(r.Intn(9*n+30))} {
			alphabet := someAlphabet(r, n)
			expectTable(t, at, alphabet, tableModel(at, alphabet))
		}
	}
}

func TestAlphabetsThatAreTooLong(t *testing.T) {
	r := rand.New(rand.NewSource(12041))
	l := someAlphabet(r, 2*api.MaxAlphabet)
	if slices.Contains(l, 0xfedcba98) {
		t.Fatal(l)
	}
	for _, n := range []int{api.MaxAlphabet + 1, api.MaxAlphabet + 2, 2 * api.MaxAlphabet} {
		expectNoTable(t, l[:n], api.ErrMany)
	}
	// Too many, ahead of one that is there twice.
	expectNoTable(t, append(slices.Clone(l[:api.MaxAlphabet]), l[0]), api.ErrMany)
	expectNoTable(t, make([]uint32, api.MaxAlphabet+1), api.ErrMany)
}

func TestCharactersThatAreThereTwice(t *testing.T) {
	for _, l := range [][]uint32{
		{1, 1}, {0, 0}, {1, 2, 1}, {1, 2, 2}, {2, 2, 1}, {top32, 3, top32}, {1, 1, 1}, {0, 256, 0}, {1, 2, 3, 4, 5, 3},
		make([]uint32, api.MaxAlphabet),
	} {
		expectNoTable(t, l, api.ErrThere)
	}
	r := rand.New(rand.NewSource(12042))
	l := someAlphabet(r, api.MaxAlphabet-1)
	for range 20 {
		expectNoTable(t, slices.Insert(slices.Clone(l), r.Intn(len(l)+1), someOf(r, l...)), api.ErrThere)
	}
	// What is alike in the lowest byte, or in the lowest two, is not the same.
	if _, e := Table(0, 1, 0x101, 0x10001, 0x1000001, 0x100, 0x10000, 0); e != api.OK {
		t.Error(e)
	}
}

func TestTableSharesNothing(t *testing.T) {
	l := []uint32{5, 600, 7, 8, 9}
	was := slices.Clone(l)
	one, _ := Table(50, l[:3]...)
	two, _ := Table(50, l[:3]...)
	for i := range one[:cap(one)] {
		one[:cap(one)][i] = 0xee
	}
	clear(l[:3])
	if !bytes.Equal(two, tableModel(50, was[:3])) || !slices.Equal(l, []uint32{0, 0, 0, 8, 9}) {
		t.Error(two, l)
	}
}

// P12.5

func expectPack(t *testing.T, alphabet, l []uint32, want []byte) {
	t.Helper()
	if b, e := Pack(alphabet, l); !bytes.Equal(b, want) || e != api.OK {
		t.Errorf("Pack(%.20x, %.40x): %.80x, %d; want %.80x", alphabet, l, b, e, want)
	}
}

func TestPacked(t *testing.T) {
	a := []uint32{0x61}
	expectPack(t, a, []uint32{0x61, 0x61}, []byte{0xe1, 0x03})
	for _, alphabet := range [][]uint32{nil, a, {1, 2}, {1, 2, 3}, someAlphabet(rand.New(rand.NewSource(5)), api.MaxAlphabet)} {
		expectPack(t, alphabet, nil, []byte{0xe1, 0})
		expectPack(t, alphabet, []uint32{}, []byte{0xe1, 0})
	}
	// The bits end just with a byte; one more and one fewer.
	expectPack(t, a, slices.Repeat(a, 6), []byte{0xe1, 0x3f})
	expectPack(t, a, slices.Repeat(a, 7), []byte{0xe1, 0x7f})
	expectPack(t, a, slices.Repeat(a, 8), []byte{0xe1, 0xff, 0})
	expectPack(t, a, slices.Repeat(a, 15), []byte{0xe1, 0xff, 0x7f})
	expectPack(t, a, slices.Repeat(a, 16), []byte{0xe1, 0xff, 0xff, 0})
	expectPack(t, []uint32{7, 300}, []uint32{300, 7, 7, 300}, packed("11"+"10"+"10"+"11"+"0"))
	expectPack(t, []uint32{'x', 0x20ac, 'y'}, []uint32{'y', 'x', 0x20ac}, []byte{0xe1, 0x6f, 0})
	expectPack(t, []uint32{1, 2, 3, 4}, []uint32{1, 2, 3, 4}, packed("100"+"101"+"110"+"111"+"0"))
	expectPack(t, []uint32{1, 2, 3, 4, 5}, []uint32{5, 4, 3, 2, 1}, packed("1111"+"1110"+"110"+"101"+"100"+"0"))
}

func TestEachCharacterOfTheLongestAlphabet(t *testing.T) {
	alphabet := someAlphabet(rand.New(rand.NewSource(1205)), api.MaxAlphabet)
	for i, c := range alphabet {
		bits := "1"
		for n := 9; n >= 0; n-- {
			bits += string("01"[i>>n&1])
		}
		expectPack(t, alphabet, []uint32{c}, packed(bits+"0"))
	}
}

func TestPackByChance(t *testing.T) {
	r := rand.New(rand.NewSource(12051))
	for range 3000 {
		alphabet := someAlphabet(r, someOf(r, r.Intn(8), r.Intn(40), r.Intn(300)))
		l := someText(r, alphabet, 60)
		expectPack(t, alphabet, l, packModel(alphabet, l))
	}
}

func TestCharactersThatAreNotInTheAlphabet(t *testing.T) {
	for _, c := range []struct{ alphabet, l []uint32 }{
		{nil, []uint32{0}},
		{nil, []uint32{1}},
		{[]uint32{1}, []uint32{2}},
		{[]uint32{1}, []uint32{0}},
		{[]uint32{1}, []uint32{0x101}},
		{[]uint32{1}, []uint32{0x1000001}},
		{[]uint32{1, 2, 3}, []uint32{4, 1, 2}},
		{[]uint32{1, 2, 3}, []uint32{1, 2, 4}},
		{[]uint32{1, 2, 3}, []uint32{1, 0, 2}},
		{[]uint32{0x101}, []uint32{1}},
		{[]uint32{0}, []uint32{top32}},
	} {
		if b, e := Pack(c.alphabet, c.l); len(b) != 0 || e != api.ErrNone {
			t.Errorf("Pack(%x, %x): %x, %d", c.alphabet, c.l, b, e)
		}
	}
}

func TestPackSharesNothing(t *testing.T) {
	alphabet := []uint32{5, 600, 7}
	l := []uint32{7, 5, 600, 600, 600, 600, 600}
	want := packModel(alphabet, l)
	one, _ := Pack(alphabet, l)
	two, _ := Pack(alphabet, l)
	for i := range one[:cap(one)] {
		one[:cap(one)][i] = 0xee
	}
	if !slices.Equal(alphabet, []uint32{5, 600, 7}) || !slices.Equal(l, []uint32{7, 5, 600, 600, 600, 600, 600}) {
		t.Error(alphabet, l)
	}
	clear(alphabet)
	clear(l)
	if !bytes.Equal(two, want) {
		t.Error(two)
	}
}
