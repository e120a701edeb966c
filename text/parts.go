package text

import (
	"slices"

	"grotto/api"
	"grotto/word"
)

// How many bytes a byte and a number have.
const (
	byteSize   = 1
	numberSize = 4
)

// Of a table: how many bytes lie ahead of its root when it is laid, and where the root's address lies.
const (
	tableHead = 12
	rootPlace = 8
)

// What a node is, by its first byte.
const (
	nodeBranch  = 0
	nodeEnd     = 1
	nodeByte    = 2
	nodeBytes   = 3
	nodeNumber  = 4
	nodeNumbers = 5
	nodeRef     = 8
	nodeFar     = 9
	nodeRefArgs = 10
	nodeFarArgs = 11
)

// branchSize: how many bytes a branch has.
const branchSize = byteSize + 2*numberSize

// lastBit is the highest bit of a byte.
const lastBit = 7

// reader is a memory that is read from an address on, and the first error met: behind it all numbers are 0.
type reader struct {
	b  []byte
	at uint32
	e  api.Errno
}

// fail: that error is met, too.
func (r *reader) fail(e api.Errno) {
	if r.e == api.OK {
		r.e = e
	}
}

// take: the number that the next n bytes say.
func (r *reader) take(n int) uint32 {
	x, e := word.Be(r.b, int(r.at), n)
	if e != api.OK {
		r.fail(api.FatalRead)
	}
	if r.e != api.OK {
		return 0
	}
	r.at += uint32(n)
	return x
}

// upToZero: the numbers of n bytes, up to one that is 0.
func (r *reader) upToZero(n int) []uint32 {
	var l []uint32
	for x := r.take(n); x != 0; x = r.take(n) {
		l = append(l, x)
	}
	return l
}

// args: a number, and so many numbers more.
func (r *reader) args() []uint32 {
	var l []uint32
	for n := r.take(numberSize); n > 0 && r.e == api.OK; n-- {
		l = append(l, r.take(numberSize))
	}
	return l
}

// far: the number that lies where the next number tells.
func (r *reader) far() uint32 {
	addr := r.take(numberSize)
	there := reader{b: r.b, at: addr}
	x := there.take(numberSize)
	r.fail(there.e)
	return x
}

// leaf: the piece that the leaf at the reader's place tells.
func (r *reader) leaf() api.Piece {
	switch r.take(byteSize) {
	case nodeEnd:
		return api.Piece{Kind: api.PieceEnd}
	case nodeByte:
		return chars(r.take(byteSize))
	case nodeBytes:
		return chars(r.upToZero(byteSize)...)
	case nodeNumber:
		return chars(r.take(numberSize))
	case nodeNumbers:
		return chars(r.upToZero(numberSize)...)
	case nodeRef:
		return api.Piece{Kind: api.PieceRef, Addr: r.take(numberSize)}
	case nodeFar:
		return api.Piece{Kind: api.PieceRef, Addr: r.far()}
	case nodeRefArgs:
		addr := r.take(numberSize)
		return api.Piece{Kind: api.PieceRef, Addr: addr, Args: r.args()}
	case nodeFarArgs:
		addr := r.far()
		return api.Piece{Kind: api.PieceRef, Addr: addr, Args: r.args()}
	}
	r.fail(api.FatalText)
	return api.Piece{}
}

// chars: a piece of these characters.
func chars(l ...uint32) api.Piece {
	return api.Piece{Kind: api.PieceChars, Chars: l}
}

// plainPiece: the piece at a place of a text whose characters have n bytes each, and the place behind it.
func plainPiece(b []byte, at api.TextAt, n int) (api.Piece, api.TextAt, api.Errno) {
	r := reader{b: b, at: at.Addr}
	c := r.take(n)
	next := api.TextAt{Kind: at.Kind, Addr: r.at}
	if c == 0 {
		return api.Piece{Kind: api.PieceEnd}, next, r.e
	}
	return chars(c), next, r.e
}

// packedPiece: the piece at a place of a packed text, and the place behind it.
func packedPiece(b []byte, table uint32, at api.TextAt) (p api.Piece, next api.TextAt, e api.Errno) {
	if table == 0 {
		return p, next, api.FatalText
	}
	head := reader{b: b, at: table + rootPlace}
	root := head.take(numberSize)
	switch {
	case head.e != api.OK:
		return p, next, head.e
	case at.Bit > lastBit:
		return p, next, api.FatalText
	}
	node, next, e := descend(b, root, at)
	if e != api.OK {
		return p, next, e
	}
	r := reader{b: b, at: node}
	p = r.leaf()
	return p, next, r.e
}

// descend: the node, which is no branch, to which the bits of a text lead from the root, and the place behind them.
func descend(b []byte, node uint32, at api.TextAt) (uint32, api.TextAt, api.Errno) {
	for branches := 0; ; branches++ {
		first := reader{b: b, at: node}
		kind := first.take(byteSize)
		switch {
		case first.e != api.OK:
			return 0, api.TextAt{}, first.e
		case kind != nodeBranch:
			return node, at, api.OK
		case branches == api.MaxBranches:
			return 0, api.TextAt{}, api.FatalText
		}
		bits := reader{b: b, at: at.Addr}
		bit := bits.take(byteSize) >> at.Bit & 1
		// Only the address that is chosen is looked at.
		chosen := reader{b: b, at: first.at + bit*numberSize, e: bits.e}
		node = chosen.take(numberSize)
		if chosen.e != api.OK {
			return 0, api.TextAt{}, chosen.e
		}
		at = behindBit(at)
	}
}

// behindBit: the place of the bit behind that of at.
func behindBit(at api.TextAt) api.TextAt {
	if at.Bit == lastBit {
		return api.TextAt{Kind: at.Kind, Addr: at.Addr + 1}
	}
	at.Bit++
	return at
}

// places: which one each character of an alphabet is, from 0 on.
func places(alphabet []uint32) (map[uint32]int, api.Errno) {
	if len(alphabet) > api.MaxAlphabet {
		return nil, api.ErrMany
	}
	m := make(map[uint32]int, len(alphabet))
	for i, c := range alphabet {
		if _, there := m[c]; there {
			return nil, api.ErrThere
		}
		m[c] = i
	}
	return m, api.OK
}

// layNode: the node of a list of characters that is to lie at at, and how many nodes that is with those behind it.
func layNode(at uint32, l []uint32) ([]byte, uint32) {
	switch {
	case len(l) == 0:
		return []byte{nodeEnd}, 1
	case len(l) == 1 && l[0] < 256:
		return []byte{nodeByte, byte(l[0])}, 1
	case len(l) == 1:
		return append([]byte{nodeNumber}, word.Put(l[0], numberSize)...), 1
	}
	half := len(l) / 2
	return layBranch(at, l[:half], l[half:])
}

// layBranch: the branch to the nodes of two lists of characters that is to lie at at, and how many nodes that is with them.
func layBranch(at uint32, left, right []uint32) ([]byte, uint32) {
	leftAt := at + branchSize
	leftBytes, leftNodes := layNode(leftAt, left)
	rightAt := leftAt + uint32(len(leftBytes))
	rightBytes, rightNodes := layNode(rightAt, right)
	return slices.Concat(
		[]byte{nodeBranch},
		word.Put(leftAt, numberSize),
		word.Put(rightAt, numberSize),
		leftBytes,
		rightBytes,
	), 1 + leftNodes + rightNodes
}

// bitRow is bits, one behind the other, of each byte the lowest first, and which bit of a byte the next one is.
type bitRow struct {
	b    []byte
	next uint
}

// add: a bit more.
func (r *bitRow) add(bit byte) {
	if r.next == 0 {
		r.b = append(r.b, 0)
	}
	r.b[len(r.b)-1] |= bit << r.next
	r.next = (r.next + 1) % (lastBit + 1)
}

// addChar: the bits that lead to the leaf of character i out of n, past the root, whose left one ends the text.
func (r *bitRow) addChar(i, n int) {
	r.add(1)
	for n > 1 {
		half := n / 2
		if i < half {
			r.add(0)
			n = half
		} else {
			r.add(1)
			i -= half
			n -= half
		}
	}
}
