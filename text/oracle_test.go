package text

import (
	"bytes"
	"math/rand"
	"slices"
	"strings"
	"testing"

	"grotto/api"
)

// top32 is the greatest word.
const top32 = 1<<32 - 1

// fault is the error by which the model ends.
type fault api.Errno

// model is a memory of which it is noted what is looked at, and whether a byte was that is not there.
type model struct {
	b     []byte
	seen  map[uint32]int
	short bool
}

// one: the byte at an address.
func (m *model) one(addr uint32) byte {
	if uint64(addr) >= uint64(len(m.b)) {
		m.short = true
		panic(fault(api.FatalRead))
	}
	if m.seen != nil {
		m.seen[addr]++
	}
	return m.b[addr]
}

// four: the number at an address.
func (m *model) four(addr uint32) uint32 {
	return uint32(m.one(addr))<<24 | uint32(m.one(addr+1))<<16 | uint32(m.one(addr+2))<<8 | uint32(m.one(addr+3))
}

// bit: bit number n of the memory, of each byte the lowest first.
func (m *model) bit(n uint64) byte {
	return m.one(uint32(n/8)) >> (n % 8) % 2
}

// caught: the error by which f ends.
func caught(f func()) (e api.Errno) {
	defer func() {
		switch x := recover().(type) {
		case nil:
		case fault:
			e = api.Errno(x)
		default:
			panic(x)
		}
	}()
	f()
	return api.OK
}

// begin: what Begin must tell, by the words of P12.1.
func (m *model) begin(addr uint32) (at api.TextAt, e api.Errno) {
	e = caught(func() {
		switch m.one(addr) {
		case 0xe0:
			at = api.TextAt{Kind: 0xe0, Addr: addr + 1}
		case 0xe1:
			at = api.TextAt{Kind: 0xe1, Addr: addr + 1}
		case 0xe2:
			at = api.TextAt{Kind: 0xe2, Addr: addr + 4}
		default:
			panic(fault(api.FatalText))
		}
	})
	return at, e
}

// next: what Next must tell, by the words of P12.2.
func (m *model) next(table uint32, at api.TextAt) (p api.Piece, behind api.TextAt, e api.Errno) {
	e = caught(func() { p, behind = m.piece(table, at) })
	return p, behind, e
}

func (m *model) piece(table uint32, at api.TextAt) (api.Piece, api.TextAt) {
	switch at.Kind {
	case 0xe0:
		return plainModel(uint32(m.one(at.Addr))), api.TextAt{Kind: 0xe0, Addr: at.Addr + 1}
	case 0xe2:
		return plainModel(m.four(at.Addr)), api.TextAt{Kind: 0xe2, Addr: at.Addr + 4}
	case 0xe1:
		if table == 0 {
			panic(fault(api.FatalText))
		}
		root := m.four(table + 8)
		if at.Bit >= 8 {
			panic(fault(api.FatalText))
		}
		p, n := m.walk(root, uint64(at.Addr)*8+uint64(at.Bit), 1)
		return p, api.TextAt{Kind: 0xe1, Addr: uint32(n / 8), Bit: uint32(n % 8)}
	}
	panic(fault(api.FatalText))
}

// plainModel: the piece of a character of a text that is not packed.
func plainModel(c uint32) api.Piece {
	if c == 0 {
		return api.Piece{Kind: 1}
	}
	return api.Piece{Kind: 2, Chars: []uint32{c}}
}

// walk: from a node on, the bit number n being the next one, the piece and the bit behind it; a branch would be this one in their row.
func (m *model) walk(node uint32, n uint64, branch int) (api.Piece, uint64) {
	kind := m.one(node)
	switch {
	case kind == 0 && branch == 257:
		panic(fault(api.FatalText))
	case kind == 0 && m.bit(n) == 0:
		return m.walk(m.four(node+1), n+1, branch+1)
	case kind == 0:
		return m.walk(m.four(node+5), n+1, branch+1)
	}
	return m.leaf(kind, node+1), n
}

// leaf: the piece of a leaf of that kind, what it has lying at an address.
func (m *model) leaf(kind byte, at uint32) api.Piece {
	var l []uint32
	switch kind {
	case 1:
		return api.Piece{Kind: 1}
	case 2:
		return api.Piece{Kind: 2, Chars: []uint32{uint32(m.one(at))}}
	case 3:
		for ; m.one(at) != 0; at++ {
			l = append(l, uint32(m.one(at)))
		}
		return api.Piece{Kind: 2, Chars: l}
	case 4:
		return api.Piece{Kind: 2, Chars: []uint32{m.four(at)}}
	case 5:
		for ; m.four(at) != 0; at += 4 {
			l = append(l, m.four(at))
		}
		return api.Piece{Kind: 2, Chars: l}
	case 8:
		return api.Piece{Kind: 3, Addr: m.four(at)}
	case 9:
		return api.Piece{Kind: 3, Addr: m.four(m.four(at))}
	case 10, 11:
		p := m.leaf(kind-2, at)
		for i := range m.four(at + 4) {
			p.Args = append(p.Args, m.four(at+8+4*i))
		}
		return p
	}
	panic(fault(api.FatalText))
}

// plain: what Plain must tell, by the words of P12.3.
func (m *model) plain(table, addr uint32, most int) (l []uint32, whole bool, e api.Errno) {
	at, e := m.begin(addr)
	if e != api.OK {
		return nil, false, e
	}
	if most < 0 {
		most = 0
	}
	row := 0
	for {
		if len(l) > most {
			return l[:most], false, api.OK
		}
		p, behind, e := m.next(table, at)
		if e != api.OK {
			return nil, false, e
		}
		if p.Kind == 1 {
			return l, true, api.OK
		}
		if len(l) == most {
			return l, false, api.OK
		}
		if p.Kind == 3 {
			return nil, false, api.ErrNone
		}
		row++
		if len(p.Chars) > 0 {
			row = 0
		}
		if row > 256 {
			return l, false, api.OK
		}
		l = append(l, p.Chars...)
		at = behind
	}
}

// tree is a node of P12.4: two nodes, a character, or neither.
type tree struct {
	left, right *tree
	char        *uint32
}

// treeOf: the node of a list of characters.
func treeOf(l []uint32) *tree {
	switch len(l) {
	case 0:
		return &tree{}
	case 1:
		return &tree{char: &l[0]}
	}
	cut := (len(l) - len(l)%2) / 2
	return &tree{left: treeOf(l[:cut]), right: treeOf(l[cut:])}
}

// rootOf: the root of an alphabet's table.
func rootOf(alphabet []uint32) *tree {
	return &tree{left: &tree{}, right: treeOf(alphabet)}
}

// inOrder: the nodes of a tree as they lie one behind the other.
func (x *tree) inOrder() []*tree {
	if x.left == nil {
		return []*tree{x}
	}
	return slices.Concat([]*tree{x}, x.left.inOrder(), x.right.inOrder())
}

// size: how many bytes a node has, without those behind it.
func (x *tree) size() int {
	switch {
	case x.left != nil:
		return 9
	case x.char == nil:
		return 1
	case *x.char <= 255:
		return 2
	}
	return 5
}

// paths: which bits lead to each character, by their letters 0 and 1.
func (x *tree) paths(ahead string, m map[uint32]string) {
	if x.char != nil {
		m[*x.char] = ahead
	}
	if x.left != nil {
		x.left.paths(ahead+"0", m)
		x.right.paths(ahead+"1", m)
	}
}

// tableModel: what Table must lay, by the words of P12.4.
func tableModel(at uint32, alphabet []uint32) []byte {
	nodes := rootOf(alphabet).inOrder()
	places := map[*tree]uint32{}
	size := 12
	for _, x := range nodes {
		places[x] = at + uint32(size)
		size += x.size()
	}
	b := num(uint32(size), uint32(len(nodes)), at+12)
	for _, x := range nodes {
		switch x.size() {
		case 9:
			b = append(append(b, 0), num(places[x.left], places[x.right])...)
		case 1:
			b = append(b, 1)
		case 2:
			b = append(b, 2, byte(*x.char))
		case 5:
			b = append(append(b, 4), num(*x.char)...)
		}
	}
	return b
}

// packModel: what Pack must lay, by the words of P12.5; all characters of l are in the alphabet.
func packModel(alphabet, l []uint32) []byte {
	m := map[uint32]string{}
	rootOf(alphabet).paths("", m)
	var s strings.Builder
	for _, c := range l {
		s.WriteString(m[c])
	}
	return packed(s.String() + "0")
}

// packed: a packed text of bits that are written as letters 0 and 1, bits 0 behind them.
func packed(bits string) []byte {
	b := []byte{0xe1}
	for i := range bits {
		if i%8 == 0 {
			b = append(b, 0)
		}
		if bits[i] == '1' {
			b[len(b)-1] += 1 << (i % 8)
		}
	}
	return b
}

// num: numbers, four bytes each.
func num(l ...uint32) (b []byte) {
	for _, x := range l {
		b = append(b, byte(x>>24), byte(x>>16), byte(x>>8), byte(x))
	}
	return b
}

// book is a memory that is laid one thing behind the other; at 0 nothing lies.
type book struct {
	b []byte
}

func newBook() *book {
	return &book{bytes.Repeat([]byte{0xee}, 16)}
}

// lay: these bytes, and the address where they lie.
func (k *book) lay(parts ...[]byte) uint32 {
	at := uint32(len(k.b))
	k.b = append(k.b, slices.Concat(parts...)...)
	return at
}

// node: a node of that kind, with numbers behind it.
func (k *book) node(kind byte, l ...uint32) uint32 {
	return k.lay([]byte{kind}, num(l...))
}

// bytesNode: a node of that kind, with bytes behind it.
func (k *book) bytesNode(kind byte, l ...byte) uint32 {
	return k.lay([]byte{kind}, l)
}

// table: a table with that root.
func (k *book) table(root uint32) uint32 {
	return k.lay(num(0xabababab, 0xcdcdcdcd, root))
}

// bits: a packed text of these bits.
func (k *book) bits(bits string) uint32 {
	return k.lay(packed(bits))
}

func samePiece(a, b api.Piece) bool {
	return a.Kind == b.Kind && a.Addr == b.Addr && slices.Equal(a.Chars, b.Chars) && slices.Equal(a.Args, b.Args)
}

// roomy: the same bytes, with spare room in which texts and nodes could be read on.
func roomy(b []byte) []byte {
	return append(slices.Clone(b), make([]byte, 64)...)[:len(b)]
}

func expectBegin(t *testing.T, b []byte, addr uint32, want api.TextAt, wantE api.Errno) {
	t.Helper()
	if at, e := Begin(roomy(b), addr); at != want || e != wantE {
		t.Errorf("Begin(%.40x, %x): %x, %d; want %x, %d", b, addr, at, e, want, wantE)
	}
}

func expectNext(t *testing.T, b []byte, table uint32, at api.TextAt, want api.Piece, behind api.TextAt) {
	t.Helper()
	if p, next, e := Next(roomy(b), table, at); !samePiece(p, want) || next != behind || e != api.OK {
		t.Errorf("Next(%.80x, %x, %x): %x, %x, %d; want %x, %x", b, table, at, p, next, e, want, behind)
	}
}

func expectNoNext(t *testing.T, b []byte, table uint32, at api.TextAt, want api.Errno) {
	t.Helper()
	if p, next, e := Next(roomy(b), table, at); !samePiece(p, api.Piece{}) || next != (api.TextAt{}) || e != want {
		t.Errorf("Next(%.80x, %x, %x): %x, %x, %d; want %d", b, table, at, p, next, e, want)
	}
}

// expectNextModel: Next tells what the model tells.
func expectNextModel(t *testing.T, b []byte, table uint32, at api.TextAt) api.Errno {
	t.Helper()
	p, behind, e := (&model{b: b}).next(table, at)
	if e == api.OK {
		expectNext(t, b, table, at, p, behind)
	} else {
		expectNoNext(t, b, table, at, e)
	}
	return e
}

func expectPlain(t *testing.T, b []byte, table, addr uint32, most int, want []uint32, wantWhole bool, wantE api.Errno) {
	t.Helper()
	if l, whole, e := Plain(roomy(b), table, addr, most); !slices.Equal(l, want) || whole != wantWhole || e != wantE {
		t.Errorf("Plain(%.80x, %x, %x, %d): %x, %v, %d; want %x, %v, %d", b, table, addr, most, l, whole, e, want, wantWhole, wantE)
	}
}

// expectPlainModel: Plain tells what the model tells.
func expectPlainModel(t *testing.T, b []byte, table, addr uint32, most int) (whole bool, e api.Errno) {
	t.Helper()
	l, whole, e := (&model{b: b}).plain(table, addr, most)
	expectPlain(t, b, table, addr, most, l, whole, e)
	return whole, e
}

func someOf[T any](r *rand.Rand, l ...T) T {
	return l[r.Intn(len(l))]
}

// someChar: a character by chance, those at the edges among them.
func someChar(r *rand.Rand) uint32 {
	return someOf(r, 1, 0x61, 255, 256, 257, 0x20ac, 0x10ffff, 1<<31, top32, uint32(r.Intn(256)), r.Uint32())
}

// someAlphabet: n characters by chance, none of them twice.
func someAlphabet(r *rand.Rand, n int) []uint32 {
	m := map[uint32]int{}
	l := []uint32{}
	for len(l) < n {
		c := someOf(r, someChar(r), uint32(r.Intn(4*n)))
		if m[c]++; m[c] == 1 {
			l = append(l, c)
		}
	}
	return l
}

// someText: at most n characters of an alphabet by chance.
func someText(r *rand.Rand, alphabet []uint32, n int) []uint32 {
	l := []uint32{}
	if len(alphabet) > 0 {
		for range r.Intn(n + 1) {
			l = append(l, someOf(r, alphabet...))
		}
	}
	return l
}

// someLeaf: a leaf by chance, which may be of no kind.
func someLeaf(r *rand.Rand, k *book) uint32 {
	where := someOf(r, uint32(r.Intn(len(k.b))), uint32(r.Intn(len(k.b)-4)), r.Uint32())
	args := make([]uint32, r.Intn(4))
	for i := range args {
		args[i] = r.Uint32()
	}
	count := someOf(r, uint32(len(args)), uint32(len(args)), uint32(len(args)), r.Uint32())
	switch kind := byte(r.Intn(14)); kind {
	case 2:
		return k.bytesNode(2, byte(r.Intn(256)))
	case 3:
		return k.bytesNode(3, append(bytes.Repeat([]byte{byte(r.Intn(256))}, r.Intn(4)), 0)...)
	case 4:
		return k.node(4, someChar(r))
	case 5:
		return k.node(5, append(slices.Repeat([]uint32{someChar(r)}, r.Intn(4)), 0)...)
	case 8, 9:
		return k.node(kind, where)
	case 10, 11:
		return k.node(kind, append([]uint32{where, count}, args...)...)
	case 6, 7, 12:
		return k.bytesNode(someOf(r, kind, 2, 2), byte(r.Intn(256)))
	case 13:
		return k.bytesNode(someOf(r, byte(r.Intn(256)), 3), 0x62, 0x63, 0)
	}
	return k.bytesNode(1)
}

// someBook: a memory with nodes by chance, a table, and a text, whose addresses are told.
func someBook(r *rand.Rand) (k *book, table, text uint32) {
	k = newBook()
	var nodes []uint32
	for range 1 + r.Intn(6) {
		nodes = append(nodes, someLeaf(r, k))
	}
	for range r.Intn(8) {
		// Now and then a branch leads to itself, or to what is no node.
		here := uint32(len(k.b))
		left := someOf(r, someOf(r, nodes...), someOf(r, nodes...), someOf(r, nodes...), nodes[len(nodes)-1], here, uint32(r.Intn(len(k.b)+20)))
		right := someOf(r, someOf(r, nodes...), someOf(r, nodes...), someOf(r, nodes...), nodes[len(nodes)-1], here)
		nodes = append(nodes, k.node(0, left, right))
	}
	layText := func() {
		b := make([]byte, someOf(r, r.Intn(12), r.Intn(80)))
		r.Read(b)
		text = k.lay([]byte{0xe1}, b)
	}
	if r.Intn(2) == 0 {
		layText()
	}
	table = k.table(someOf(r, nodes[len(nodes)-1], nodes[len(nodes)-1], someOf(r, nodes...)))
	if text == 0 {
		layText()
	}
	return k, table, text
}
