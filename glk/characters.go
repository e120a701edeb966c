package glk

import "grotto/api"

// The last character that has one byte, and what stands for those behind it.
const (
	lastNarrow = 255
	unknown    = 63
)

// version is what GlkAsk answers to 0.
const version = 0x705

// capital is how much less a capital letter is than its small one.
const capital = 32

// narrow: a character, or what stands for it where it has one byte.
func narrow(c uint32) uint32 {
	if c > lastNarrow {
		return unknown
	}
	return c
}

// narrowed: all of l, each with one byte.
func narrowed(l []uint32) []uint32 {
	all := make([]uint32, 0, len(l))
	for _, c := range l {
		all = append(all, narrow(c))
	}
	return all
}

// isPlain: is it one of the characters up to 126 that are seen?
func isPlain(c uint32) bool {
	return 32 <= c && c <= 126
}

// isHigh: is it one of the characters above 126 with one byte that are seen?
func isHigh(c uint32) bool {
	return 160 <= c && c <= lastNarrow
}

// isCapital: is it a capital letter to which a small one belongs?
func isCapital(c uint32) bool {
	return 65 <= c && c <= 90 || 192 <= c && c <= 214 || 216 <= c && c <= 222
}

// handedChar: the character that is handed to a call, of which one that is not wide takes the lowest byte.
func (c call) handedChar(x uint32) uint32 {
	if c.wide {
		return x
	}
	return x & lastNarrow
}

func put(g *World, c call) (uint32, api.Errno) {
	g.comeToCurrent(c.handedChar(c.args[0]))
	return 0, api.OK
}

func putStr(g *World, c call) (uint32, api.Errno) {
	g.come(c.on, c.handedChar(c.args[1]))
	return 0, api.OK
}

func putBuffer(g *World, c call) (uint32, api.Errno) {
	addr := c.args[0]
	for range c.args[1] {
		x, e := c.space.get(addr, 1)
		if e != api.OK {
			return 0, e
		}
		g.comeToCurrent(x)
		addr++
	}
	return 0, api.OK
}

func getStr(g *World, c call) (uint32, api.Errno) {
	if c.on.win != nil {
		return noChar, api.OK
	}
	x, ok, _ := g.files.Read(c.on.str.number)
	switch {
	case !ok:
		return noChar, api.OK
	case c.wide:
		return x, api.OK
	}
	return narrow(x), api.OK
}

func lineStr(g *World, c call) (uint32, api.Errno) {
	addr, n := c.args[1], c.args[2]
	if n == 0 || !isPlace(addr) || c.on.win != nil {
		return 0, api.OK
	}
	l, e := g.files.Line(c.on.str.number, int(n-1))
	if e != api.OK {
		return 0, api.OK
	}
	if e := c.space.lay(addr, 1, append(narrowed(l), 0)); e != api.OK {
		return 0, e
	}
	return uint32(len(l)), api.OK
}

func ask(_ *World, c call) (uint32, api.Errno) {
	a, b := c.args[0], c.args[1]
	switch {
	case a == 0:
		return version, api.OK
	case a == 1 && isPlain(b):
		return 1, api.OK
	case a == 2 && (isPlain(b) || isHigh(b)):
		return 1, api.OK
	case a == 3 && (b == lineEnd || isPlain(b) || isHigh(b)):
		return 2, api.OK
	}
	return 0, api.OK
}

func lower(_ *World, c call) (uint32, api.Errno) {
	if x := c.args[0]; isCapital(x) {
		return x + capital, api.OK
	}
	return c.args[0], api.OK
}

func upper(_ *World, c call) (uint32, api.Errno) {
	if x := c.args[0] - capital; isCapital(x) {
		return x, api.OK
	}
	return c.args[0], api.OK
}
