package glk

import (
	"slices"

	"grotto/api"
)

// window is what a window has beside its place on the screen.
type window struct {
	id     uint32
	number int // on the screen
	kind   uint32
	stream uint32 // its stream's id
	came   uint32 // how many characters came to that
	text   []uint32
	grid   grid
	asks   request
}

// grid is what stands in a window by columns and rows.
type grid struct {
	x, y uint64     // the cursor; wide enough that a row behind the last word is none of the first ones
	rows [][]uint32 // as far as something stands; also what the window has become too small for
}

// What ends a line; what a grid shows where nothing stands.
const (
	lineEnd = 10
	blank   = 32
)

// paneKind: what the screen calls a window of that kind; 0, if none can be opened.
func paneKind(kind uint32) int {
	switch kind {
	case api.WinBlank:
		return api.PaneBlank
	case api.WinText:
		return api.PaneText
	case api.WinGrid:
		return api.PaneGrid
	}
	return 0
}

// addWindow: one window more, and its stream; its id.
func (g *World) addWindow(number int, kind, rock uint32) uint32 {
	w := &window{number: number, kind: kind}
	w.id = g.add(&object{kind: aWindow, rock: rock, win: w}).id
	w.stream = g.add(&object{kind: aStream, win: w}).id
	return w.id
}

// numberOf: what number the window of that id has on the screen, 0 of 0; false, if there is no such window.
func (g *World) numberOf(id uint32) (int, bool) {
	if id == 0 {
		return 0, true
	}
	o := g.find(aWindow, id)
	if o == nil {
		return 0, false
	}
	return o.win.number, true
}

// idOf: the id of the window that has that number on the screen; 0, if there is none.
func (g *World) idOf(number int) uint32 {
	for _, o := range g.objects {
		if o.kind == aWindow && o.win.number == number {
			return o.id
		}
	}
	return 0
}

// sizeOf: how many columns and rows a window has for characters.
func (g *World) sizeOf(w *window) (columns, rows int) {
	if w.kind != api.WinText && w.kind != api.WinGrid {
		return 0, 0
	}
	r, _ := g.screen.Rect(w.number)
	return r.W, r.H
}

// show: a character is seen in a window.
func (g *World) show(w *window, c uint32) {
	switch w.kind {
	case api.WinText:
		w.text = append(w.text, c)
		g.tell(w.id, c)
	case api.WinGrid:
		columns, rows := g.sizeOf(w)
		w.grid.put(c, columns, rows)
	}
}

// tell: a character was told in the window of that id.
func (g *World) tell(id, c uint32) {
	last := len(g.told) - 1
	if last < 0 || g.told[last].Win != id {
		g.told = append(g.told, api.Said{Win: id})
		last++
	}
	g.told[last].Text = append(g.told[last].Text, c)
}

// put: a character comes to a grid of so many columns and rows.
func (t *grid) put(c uint32, columns, rows int) {
	if c == lineEnd {
		t.x, t.y = 0, t.y+1
		return
	}
	if t.x >= uint64(columns) || t.y >= uint64(rows) {
		return
	}
	t.stand(int(t.x), int(t.y), c)
	t.x++
	if t.x == uint64(columns) {
		t.x, t.y = 0, t.y+1
	}
}

// stand: a character stands there.
func (t *grid) stand(x, y int, c uint32) {
	for len(t.rows) <= y {
		t.rows = append(t.rows, nil)
	}
	for len(t.rows[y]) <= x {
		t.rows[y] = append(t.rows[y], blank)
	}
	t.rows[y][x] = c
}

// row: what is seen of the row y in so many columns.
func (t *grid) row(y, columns int) []uint32 {
	l := slices.Repeat([]uint32{blank}, columns)
	if y < len(t.rows) {
		copy(l, t.rows[y])
	}
	return l
}

func winRoot(g *World, _ call) (uint32, api.Errno) {
	return g.idOf(g.screen.Root()), api.OK
}

func winOpen(g *World, c call) (uint32, api.Errno) {
	kind := c.args[3]
	split, ok := g.numberOf(c.args[0])
	if !ok {
		return 0, api.OK
	}
	number, e := g.screen.Open(split, int(c.args[1]), c.args[2], paneKind(kind))
	if e != api.OK {
		return 0, api.OK
	}
	id := g.addWindow(number, kind, c.args[4])
	if split != 0 {
		g.addWindow(g.screen.Parent(number), api.WinPair, 0)
	}
	return id, api.OK
}

func winClose(g *World, c call) (uint32, api.Errno) {
	gone, _ := g.screen.Close(c.on.win.number)
	// The streams of windows are found by their windows, too.
	g.drop(func(o *object) bool { return o.win != nil && slices.Contains(gone, o.win.number) })
	return c.handed(0, c.args[1], 0, c.on.win.came)
}

func winSize(g *World, c call) (uint32, api.Errno) {
	columns, rows := g.sizeOf(c.on.win)
	if e := c.space.hand(c.args[1], uint32(columns)); e != api.OK {
		return 0, e
	}
	return c.handed(0, c.args[2], uint32(rows))
}

func winArrange(g *World, c call) (uint32, api.Errno) {
	if key, ok := g.numberOf(c.args[3]); ok {
		g.screen.Arrange(c.on.win.number, int(c.args[1]), c.args[2], key)
	}
	return 0, api.OK
}

func winKind(_ *World, c call) (uint32, api.Errno) {
	return c.on.win.kind, api.OK
}

func winParent(g *World, c call) (uint32, api.Errno) {
	return g.idOf(g.screen.Parent(c.on.win.number)), api.OK
}

func winSibling(g *World, c call) (uint32, api.Errno) {
	return g.idOf(g.screen.Sibling(c.on.win.number)), api.OK
}

func winClear(_ *World, c call) (uint32, api.Errno) {
	c.on.win.text, c.on.win.grid = nil, grid{}
	return 0, api.OK
}

func winCursor(_ *World, c call) (uint32, api.Errno) {
	t := &c.on.win.grid
	t.x, t.y = uint64(c.args[1]), uint64(c.args[2])
	return 0, api.OK
}

func winStream(_ *World, c call) (uint32, api.Errno) {
	return c.on.win.stream, api.OK
}

func winSet(g *World, c call) (uint32, api.Errno) {
	if id := c.args[0]; id == 0 {
		g.current = 0
	} else if o := g.find(aWindow, id); o != nil {
		g.current = o.win.stream
	}
	return 0, api.OK
}
