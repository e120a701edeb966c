package glk

import "grotto/api"

// call is one of a game's calls: what it looks at, and the object that its first argument names, if it is to name one.
type call struct {
	space space
	args  []uint32
	wide  bool
	on    *object
}

// row is a row of the table of calls.
type row struct {
	args   int
	first  kind   // what the first argument must name
	absent uint32 // the answer, if it names none
	do     func(*World, call) (uint32, api.Errno)
}

// noChar is the answer of a stream that has no character.
const noChar = 1<<32 - 1

// rowOf: the row of a call; one that does nothing, if there is no such call.
func rowOf(sel uint32) row {
	for _, part := range []func(uint32) row{windowRow, streamRow, referenceRow, characterRow, eventRow} {
		if r := part(sel); r.do != nil {
			return r
		}
	}
	return row{}
}

// isWide: is it one of those calls whose characters have four bytes?
func isWide(sel uint32) bool {
	switch sel {
	case api.GlkPutWide, api.GlkPutStrWide, api.GlkGetStrWide, api.GlkStrFileWide, api.GlkStrMemWide:
		return true
	}
	return false
}

// windowRow: the rows of windows.
func windowRow(sel uint32) row {
	switch sel {
	case api.GlkWinNext:
		return row{args: 2, do: nextOf(aWindow)}
	case api.GlkWinRock:
		return row{args: 1, first: aWindow, do: rock}
	case api.GlkWinRoot:
		return row{args: 0, do: winRoot}
	case api.GlkWinOpen:
		return row{args: 5, do: winOpen}
	case api.GlkWinClose:
		return row{args: 2, first: aWindow, do: winClose}
	case api.GlkWinSize:
		return row{args: 3, first: aWindow, do: winSize}
	case api.GlkWinArrange:
		return row{args: 4, first: aWindow, do: winArrange}
	case api.GlkWinKind:
		return row{args: 1, first: aWindow, do: winKind}
	case api.GlkWinParent:
		return row{args: 1, first: aWindow, do: winParent}
	case api.GlkWinSibling:
		return row{args: 1, first: aWindow, do: winSibling}
	case api.GlkWinClear:
		return row{args: 1, first: aWindow, do: winClear}
	case api.GlkWinCursor:
		return row{args: 3, first: aWindow, do: winCursor}
	case api.GlkWinStream:
		return row{args: 1, first: aWindow, do: winStream}
	case api.GlkWinSet:
		return row{args: 1, do: winSet}
	}
	return row{}
}

// streamRow: the rows of streams, but those by which characters come and go.
func streamRow(sel uint32) row {
	switch sel {
	case api.GlkStrNext:
		return row{args: 2, do: nextOf(aStream)}
	case api.GlkStrRock:
		return row{args: 1, first: aStream, do: rock}
	case api.GlkStrFile, api.GlkStrFileWide:
		return row{args: 3, first: aReference, do: strFile}
	case api.GlkStrMemory, api.GlkStrMemWide:
		return row{args: 4, do: strMemory}
	case api.GlkStrClose:
		return row{args: 2, first: aStream, do: strClose}
	case api.GlkStrSeek:
		return row{args: 3, first: aStream, do: strSeek}
	case api.GlkStrTell:
		return row{args: 1, first: aStream, do: strTell}
	case api.GlkStrSet:
		return row{args: 1, do: strSet}
	case api.GlkStrCurrent:
		return row{args: 0, do: strCurrent}
	}
	return row{}
}

// referenceRow: the rows of references.
func referenceRow(sel uint32) row {
	switch sel {
	case api.GlkRefNext:
		return row{args: 2, do: nextOf(aReference)}
	case api.GlkRefRock:
		return row{args: 1, first: aReference, do: rock}
	case api.GlkRefName:
		return row{args: 3, do: refName}
	case api.GlkRefDestroy:
		return row{args: 1, first: aReference, do: refDestroy}
	case api.GlkRefDelete:
		return row{args: 1, first: aReference, do: refDelete}
	case api.GlkRefExists:
		return row{args: 1, first: aReference, do: refExists}
	}
	return row{}
}

// characterRow: the rows by which characters come and go, and those that reckon with them.
func characterRow(sel uint32) row {
	switch sel {
	case api.GlkPut, api.GlkPutWide:
		return row{args: 1, do: put}
	case api.GlkPutStr, api.GlkPutStrWide:
		return row{args: 2, first: aStream, do: putStr}
	case api.GlkPutBuffer:
		return row{args: 2, do: putBuffer}
	case api.GlkGetStr, api.GlkGetStrWide:
		return row{args: 1, first: aStream, absent: noChar, do: getStr}
	case api.GlkLineStr:
		return row{args: 3, first: aStream, do: lineStr}
	case api.GlkAsk:
		return row{args: 2, do: ask}
	case api.GlkLower:
		return row{args: 1, do: lower}
	case api.GlkUpper:
		return row{args: 1, do: upper}
	}
	return row{}
}

// eventRow: the rows of what comes from outside, and the end.
func eventRow(sel uint32) row {
	switch sel {
	case api.GlkExit:
		return row{args: 0, do: exit}
	case api.GlkSelect:
		return row{args: 1, do: selectEvent}
	case api.GlkLineAsk:
		return row{args: 4, first: aWindow, do: lineAsk}
	case api.GlkLineCancel:
		return row{args: 2, first: aWindow, do: lineCancel}
	case api.GlkCharAsk:
		return row{args: 1, first: aWindow, do: charAsk}
	case api.GlkCharCancel:
		return row{args: 1, first: aWindow, do: charCancel}
	}
	return row{}
}

// nextOf: the call that goes through all objects of a kind.
func nextOf(k kind) func(*World, call) (uint32, api.Errno) {
	return func(g *World, c call) (uint32, api.Errno) {
		o := g.next(k, c.args[0])
		if o == nil {
			return 0, c.space.hand(c.args[1], 0)
		}
		return c.handed(o.id, c.args[1], o.rock)
	}
}

// handed: x, if the numbers can be handed to that address.
func (c call) handed(x, addr uint32, l ...uint32) (uint32, api.Errno) {
	if e := c.space.hand(addr, l...); e != api.OK {
		return 0, e
	}
	return x, api.OK
}

func rock(_ *World, c call) (uint32, api.Errno) {
	return c.on.rock, api.OK
}
