package glk

import (
	"fmt"
	"maps"
	"math/rand"
	"slices"
	"testing"

	"grotto/api"
	"grotto/pane"
	"grotto/shelf"
)

// top is the greatest word.
const top = 1<<32 - 1

// Where the memory of the tests begins and ends; what of it can only be read.
const (
	lowEnd   = 0x6000
	fixed    = 0x400
	fixedEnd = 0x500
	high     = 1<<32 - 0x100
)

// room is a memory that has a lower and an upper part and goes on from the last address to the first, and a stack.
type room struct {
	low     [lowEnd]byte
	high    [0x100]byte
	stack   []uint32
	left    int       // how many questions it answers still
	refusal api.Errno // what it answers to others
}

// newRoom: one that never refuses but where nothing is.
func newRoom() *room {
	return &room{left: 1 << 40}
}

// clone: another one that is the same.
func (s *room) clone() *room {
	c := *s
	c.stack = slices.Clone(s.stack)
	return &c
}

func (s *room) byteAt(addr uint32) *byte {
	switch {
	case addr < lowEnd:
		return &s.low[addr]
	case addr >= high:
		return &s.high[addr-high]
	}
	return nil
}

// answers: does it answer that question?
func (s *room) answers() bool {
	s.left--
	return s.left >= 0
}

// Get tells a number beside an error, too, which nobody may take.
func (s *room) Get(addr uint32, n int) (uint32, api.Errno) {
	if !s.answers() {
		return 0x41, s.refusal
	}
	x := uint32(0)
	for range n {
		b := s.byteAt(addr)
		if b == nil {
			return 0x42, api.FatalRead
		}
		x = x<<8 | uint32(*b)
		addr++
	}
	return x, api.OK
}

func (s *room) Set(addr uint32, n int, x uint32) api.Errno {
	if !s.answers() {
		return s.refusal
	}
	for i := range uint32(n) {
		if b := addr + i; s.byteAt(b) == nil || b >= fixed && b < fixedEnd {
			return api.FatalWrite
		}
	}
	for i := range n {
		*s.byteAt(addr + uint32(i)) = byte(x >> (8 * (n - 1 - i)))
	}
	return api.OK
}

func (s *room) Push(x uint32) api.Errno {
	if !s.answers() {
		return s.refusal
	}
	if len(s.stack) == 1000 {
		return api.FatalOver
	}
	s.stack = append(s.stack, x)
	return api.OK
}

// put: bytes lie there.
func (s *room) put(addr uint32, b string) {
	for i := range len(b) {
		*s.byteAt(addr + uint32(i)) = b[i]
	}
}

// text: n bytes from there on.
func (s *room) text(addr uint32, n int) string {
	var b []byte
	for i := range n {
		b = append(b, *s.byteAt(addr + uint32(i)))
	}
	return string(b)
}

// word: the number of four bytes there.
func (s *room) word(addr uint32) (x uint32) {
	for _, c := range []byte(s.text(addr, 4)) {
		x = x<<8 | uint32(c)
	}
	return x
}

func (s *room) same(o *room) bool {
	return s.low == o.low && s.high == o.high && slices.Equal(s.stack, o.stack) && s.left == o.left
}

// form is a call of the chapter's table: a letter for each argument, by which some are drawn.
type form struct {
	sel  uint32
	args string
}

// forms is the chapter's table. w, s, f: a window, a stream, a reference; W, S: such a one or 0; i: an id; r, a: an address; A: that of a name; n: a number; c: a character; m, z, k: a method, a size, a kind; l: a length; p: a mode; q, h: a place, from where; x: a column, a row; g: what is asked.
func forms() []form {
	return []form{
		{api.GlkExit, ""}, {api.GlkAsk, "gc"},
		{api.GlkWinNext, "ir"}, {api.GlkStrNext, "ir"}, {api.GlkRefNext, "ir"},
		{api.GlkWinRock, "w"}, {api.GlkStrRock, "s"}, {api.GlkRefRock, "f"},
		{api.GlkWinRoot, ""}, {api.GlkWinOpen, "Wmzkn"}, {api.GlkWinClose, "wr"}, {api.GlkWinSize, "wrr"},
		{api.GlkWinArrange, "wmzW"}, {api.GlkWinKind, "w"}, {api.GlkWinParent, "w"}, {api.GlkWinSibling, "w"},
		{api.GlkWinClear, "w"}, {api.GlkWinCursor, "wxx"}, {api.GlkWinStream, "w"}, {api.GlkWinSet, "W"},
		{api.GlkStrFile, "fpn"}, {api.GlkStrFileWide, "fpn"}, {api.GlkStrMemory, "alpn"}, {api.GlkStrMemWide, "alpn"},
		{api.GlkStrClose, "sr"}, {api.GlkStrSeek, "sqh"}, {api.GlkStrTell, "s"}, {api.GlkStrSet, "S"}, {api.GlkStrCurrent, ""},
		{api.GlkRefName, "nAn"}, {api.GlkRefDestroy, "f"}, {api.GlkRefDelete, "f"}, {api.GlkRefExists, "f"},
		{api.GlkPut, "c"}, {api.GlkPutWide, "c"}, {api.GlkPutStr, "sc"}, {api.GlkPutStrWide, "sc"}, {api.GlkPutBuffer, "al"},
		{api.GlkGetStr, "s"}, {api.GlkGetStrWide, "s"}, {api.GlkLineStr, "sal"}, {api.GlkLower, "c"}, {api.GlkUpper, "c"},
		{api.GlkSelect, "r"}, {api.GlkLineAsk, "waln"}, {api.GlkCharAsk, "w"}, {api.GlkLineCancel, "wr"}, {api.GlkCharCancel, "w"},
	}
}

// formOf: the row of a call.
func formOf(sel uint32) (form, bool) {
	l := forms()
	i := slices.IndexFunc(l, func(f form) bool { return f.sel == sel })
	if i < 0 {
		return form{}, false
	}
	return l[i], true
}

// aWin, aStr and aRef are objects by the words alone.
type aWin struct {
	number             int
	kind, rock, stream uint32
	came               int
	text               []uint32
	cells              map[[2]int]uint32
	x, y               int
	asks               string // "", "line", "char"
	to, most           uint32
}

type aStr struct {
	rock, win uint32 // the window whose it is
	number    int
	from      uint32
	width     int
}

type aRef struct {
	rock uint32
	name string
}

// model is a world by the words of P16.1 to P16.4 alone.
type model struct {
	screen  *pane.Tree
	files   *shelf.Shelf
	last    uint32
	wins    map[uint32]*aWin
	strs    map[uint32]*aStr
	refs    map[uint32]*aRef
	current uint32
	inputs  []api.Input
	said    [][2]uint32 // a window, a character
	over    bool
	s       *room
}

func newModel(w, h int, inputs []api.Input) (*model, api.Errno) {
	screen, e := pane.New(w, h)
	if e != api.OK {
		return nil, e
	}
	files, _ := shelf.New(1048576)
	m := &model{screen: screen, files: files, wins: map[uint32]*aWin{}, strs: map[uint32]*aStr{}, refs: map[uint32]*aRef{}}
	for _, in := range inputs {
		m.inputs = append(m.inputs, api.Input{Line: in.Line, Text: slices.Clone(in.Text)})
	}
	return m, api.OK
}

// stopped is thrown where an error ends a call.
type stopped api.Errno

func stopBy(e api.Errno) {
	if e != api.OK {
		panic(stopped(e))
	}
}

// hand: numbers are handed to an address.
func (m *model) hand(addr uint32, l ...uint32) {
	for i, x := range l {
		switch addr {
		case 0:
		case top:
			stopBy(m.s.Push(x))
		default:
			stopBy(m.s.Set(addr+uint32(i)*4, 4, x))
		}
	}
}

func (m *model) lay(addr uint32, width int, l []uint32) {
	for i, x := range l {
		stopBy(m.s.Set(addr+uint32(i*width), width, x))
	}
}

func (m *model) read(addr uint32, width int) uint32 {
	x, e := m.s.Get(addr, width)
	stopBy(e)
	return x
}

func marked(c uint32) uint32 {
	if c >= 256 {
		return '?'
	}
	return c
}

func markedAll(l []uint32) (all []uint32) {
	for _, c := range l {
		all = append(all, marked(c))
	}
	return all
}

// draw: the next id.
func (m *model) draw() uint32 {
	m.last++
	return m.last
}

// least: the least id above that one among some objects, or 0.
func least[T any](all map[uint32]T, above uint32) uint32 {
	is := uint32(0)
	for id := range all {
		if id > above && (is == 0 || id < is) {
			is = id
		}
	}
	return is
}

// idOf: the id of the window with that number on the screen, or 0.
func (m *model) idOf(number int) uint32 {
	for id, w := range m.wins {
		if number != 0 && w.number == number {
			return id
		}
	}
	return 0
}

// rect: where a window lies.
func (m *model) rect(w *aWin) api.Rect {
	r, _ := m.screen.Rect(w.number)
	return r
}

func (m *model) newWin(number int, kind, rock uint32) uint32 {
	w := &aWin{number: number, kind: kind, rock: rock, cells: map[[2]int]uint32{}}
	id := m.draw()
	m.wins[id] = w
	w.stream = m.draw()
	m.strs[w.stream] = &aStr{win: id}
	return id
}

// seen: a character behind a text, or on a grid.
func (m *model) seen(id, c uint32) {
	w := m.wins[id]
	switch {
	case w.kind == 3:
		w.text = append(w.text, c)
		m.said = append(m.said, [2]uint32{id, c})
	case w.kind == 4 && c == 10:
		w.x, w.y = 0, w.y+1
	case w.kind == 4:
		r := m.rect(w)
		if w.x < r.W && w.y < r.H {
			w.cells[[2]int{w.x, w.y}] = c
			w.x++
			if w.x == r.W {
				w.x, w.y = 0, w.y+1
			}
		}
	}
}

// comes: a character comes to a stream.
func (m *model) comes(id, c uint32) {
	s := m.strs[id]
	switch {
	case s == nil:
	case s.win == 0:
		m.files.Write(s.number, c)
	default:
		m.wins[s.win].came++
		m.seen(s.win, c)
	}
}

// call: what the table says.
func (m *model) call(sel uint32, args []uint32) (x uint32, e api.Errno) {
	if m.over {
		return 0, api.ErrOver
	}
	f, ok := formOf(sel)
	if !ok || len(f.args) != len(args) {
		return 0, api.FatalCall
	}
	defer func() {
		if why := recover(); why != nil {
			x, e = 0, api.Errno(why.(stopped))
		}
	}()
	for i, letter := range f.args {
		_, win := m.wins[args[i]]
		_, str := m.strs[args[i]]
		_, ref := m.refs[args[i]]
		if letter == 'w' && !win || letter == 'W' && !win && args[i] != 0 || letter == 's' && !str || letter == 'S' && !str && args[i] != 0 || letter == 'f' && !ref {
			if sel == api.GlkGetStr || sel == api.GlkGetStrWide {
				return top, api.OK
			}
			return 0, api.OK
		}
	}
	var a [5]uint32
	copy(a[:], args)
	return m.do(sel, a), api.OK
}

// do: a call all of whose objects are there.
func (m *model) do(sel uint32, a [5]uint32) uint32 {
	switch sel >> 4 {
	case 2, 3:
		return m.doWin(sel, a)
	case 4, 0x13:
		if sel != api.GlkGetStrWide {
			return m.doStr(sel, a)
		}
	case 6:
		return m.doRef(sel, a)
	case 0xc, 0xd:
		return m.doEvent(sel, a)
	}
	return m.doChar(sel, a)
}

func (m *model) doWin(sel uint32, a [5]uint32) uint32 {
	o, w := a[0], m.wins[a[0]]
	switch sel {
	case api.GlkWinNext:
		id := least(m.wins, o)
		if id == 0 {
			m.hand(a[1], 0)
		} else {
			m.hand(a[1], m.wins[id].rock)
		}
		return id
	case api.GlkWinRock:
		return w.rock
	case api.GlkWinRoot:
		return m.idOf(m.screen.Root())
	case api.GlkWinOpen:
		return m.winOpen(a)
	case api.GlkWinClose:
		m.winClose(a)
	case api.GlkWinSize:
		r := m.rect(w)
		if w.kind < 3 {
			r = api.Rect{}
		}
		m.hand(a[1], uint32(r.W))
		m.hand(a[2], uint32(r.H))
	case api.GlkWinArrange:
		key := 0
		if a[3] != 0 {
			key = m.wins[a[3]].number
		}
		m.screen.Arrange(w.number, int(a[1]), a[2], key)
	case api.GlkWinKind:
		return w.kind
	case api.GlkWinParent:
		return m.idOf(m.screen.Parent(w.number))
	case api.GlkWinSibling:
		return m.idOf(m.screen.Sibling(w.number))
	case api.GlkWinClear:
		w.text, w.cells, w.x, w.y = nil, map[[2]int]uint32{}, 0, 0
	case api.GlkWinCursor:
		w.x, w.y = int(a[1]), int(a[2])
	case api.GlkWinStream:
		return w.stream
	case api.GlkWinSet:
		m.current = 0
		if o != 0 {
			m.current = w.stream
		}
	}
	return 0
}

func (m *model) winOpen(a [5]uint32) uint32 {
	kinds := map[uint32]int{2: api.PaneBlank, 3: api.PaneText, 4: api.PaneGrid}
	kind, ok := kinds[a[3]]
	if !ok {
		return 0
	}
	split := 0
	if a[0] != 0 {
		split = m.wins[a[0]].number
	}
	number, e := m.screen.Open(split, int(a[1]), a[2], kind)
	if e != api.OK {
		return 0
	}
	id := m.newWin(number, a[3], a[4])
	if split != 0 {
		m.newWin(number+1, 1, 0)
	}
	return id
}

func (m *model) winClose(a [5]uint32) {
	came := m.wins[a[0]].came
	gone, _ := m.screen.Close(m.wins[a[0]].number)
	for _, number := range gone {
		id := m.idOf(number)
		if m.current == m.wins[id].stream {
			m.current = 0
		}
		delete(m.strs, m.wins[id].stream)
		delete(m.wins, id)
	}
	m.hand(a[1], 0, uint32(came))
}

func (m *model) doStr(sel uint32, a [5]uint32) uint32 {
	o, s, wide := a[0], m.strs[a[0]], sel > 0x100
	switch sel {
	case api.GlkStrNext:
		id := least(m.strs, o)
		if id == 0 {
			m.hand(a[1], 0)
		} else {
			m.hand(a[1], m.strs[id].rock)
		}
		return id
	case api.GlkStrRock:
		return s.rock
	case api.GlkStrFile, api.GlkStrFileWide:
		n, e := m.files.Open(m.refs[o].name, int(a[1]), wide)
		if e != api.OK {
			return 0
		}
		id := m.draw()
		m.strs[id] = &aStr{number: n, rock: a[2]}
		return id
	case api.GlkStrMemory, api.GlkStrMemWide:
		return m.strMemory(a, wide)
	case api.GlkStrClose:
		m.strClose(a)
	case api.GlkStrSeek:
		if s.win == 0 {
			m.files.Seek(s.number, int(int32(a[1])), int(a[2]))
		}
	case api.GlkStrTell:
		if s.win != 0 {
			return uint32(m.wins[s.win].came)
		}
		place, _, _ := m.files.Tell(s.number)
		return uint32(place)
	case api.GlkStrSet:
		m.current = o
	case api.GlkStrCurrent:
		return m.current
	}
	return 0
}

func (m *model) strMemory(a [5]uint32, wide bool) uint32 {
	if a[1] > 4096 {
		return 0
	}
	width := 1
	if wide {
		width = 4
	}
	var l []uint32
	for i := range a[1] {
		if a[0] != 0 && a[0] != top {
			l = append(l, m.read(a[0]+i*uint32(width), width))
		}
	}
	n, e := m.files.Buffer(l, int(a[2]), wide)
	if e != api.OK {
		return 0
	}
	id := m.draw()
	m.strs[id] = &aStr{number: n, rock: a[3], from: a[0], width: width}
	return id
}

func (m *model) strClose(a [5]uint32) {
	s := m.strs[a[0]]
	if s.win != 0 {
		return
	}
	delete(m.strs, a[0])
	if m.current == a[0] {
		m.current = 0
	}
	read, written, l, _ := m.files.Close(s.number)
	if written > 0 {
		m.lay(s.from, s.width, l)
	}
	m.hand(a[1], read, written)
}

func (m *model) doRef(sel uint32, a [5]uint32) uint32 {
	f := m.refs[a[0]]
	switch sel {
	case api.GlkRefNext:
		id := least(m.refs, a[0])
		if id == 0 {
			m.hand(a[1], 0)
		} else {
			m.hand(a[1], m.refs[id].rock)
		}
		return id
	case api.GlkRefRock:
		return f.rock
	case api.GlkRefName:
		name := ""
		for len(name) < 33 {
			c := m.read(a[1]+uint32(len(name)), 1)
			if c == 0 {
				break
			}
			name += string([]byte{byte(c)})
		}
		if name == "" || len(name) == 33 || len(m.refs) == 64 {
			return 0
		}
		id := m.draw()
		m.refs[id] = &aRef{rock: a[2], name: name}
		return id
	case api.GlkRefDestroy:
		delete(m.refs, a[0])
	case api.GlkRefDelete:
		m.files.Delete(f.name)
	case api.GlkRefExists:
		if _, ok := m.files.Get(f.name); ok {
			return 1
		}
	}
	return 0
}

func (m *model) doChar(sel uint32, a [5]uint32) uint32 {
	switch sel {
	case api.GlkExit:
		m.over = true
	case api.GlkAsk:
		return asked(a[0], a[1])
	case api.GlkPut:
		m.comes(m.current, a[0]%256)
	case api.GlkPutWide:
		m.comes(m.current, a[0])
	case api.GlkPutStr:
		m.comes(a[0], a[1]%256)
	case api.GlkPutStrWide:
		m.comes(a[0], a[1])
	case api.GlkPutBuffer:
		for i := range a[1] {
			m.comes(m.current, m.read(a[0]+i, 1))
		}
	case api.GlkGetStr, api.GlkGetStrWide:
		c, ok, _ := m.files.Read(m.strs[a[0]].number)
		if !ok {
			return top
		}
		if sel == api.GlkGetStr {
			return marked(c)
		}
		return c
	case api.GlkLineStr:
		return m.lineStr(a)
	case api.GlkLower:
		if slices.Contains(capitals(), a[0]) {
			return a[0] + 32
		}
		return a[0]
	case api.GlkUpper:
		if a[0] >= 32 && slices.Contains(capitals(), a[0]-32) {
			return a[0] - 32
		}
		return a[0]
	}
	return 0
}

// capitals: the characters of which small ones are 32 more.
func capitals() (l []uint32) {
	for c := uint32('A'); c <= 'Z'; c++ {
		l = append(l, c)
	}
	for c := uint32('À'); c <= 'Þ'; c++ {
		if c != '×' {
			l = append(l, c)
		}
	}
	return l
}

func asked(a, b uint32) uint32 {
	low, upper := b >= 32 && b <= 126, b >= 160 && b <= 255
	switch {
	case a == 0:
		return 0x705
	case a == 1 && low, a == 2 && (low || upper):
		return 1
	case a == 3 && (low || upper || b == 10):
		return 2
	}
	return 0
}

func (m *model) lineStr(a [5]uint32) uint32 {
	s := m.strs[a[0]]
	if a[2] == 0 || a[1] == 0 || a[1] == top || s.win != 0 {
		return 0
	}
	l, e := m.files.Line(s.number, int(a[2])-1)
	if e != api.OK {
		return 0
	}
	m.lay(a[1], 1, append(markedAll(l), 0))
	return uint32(len(l))
}

func (m *model) doEvent(sel uint32, a [5]uint32) uint32 {
	w := m.wins[a[0]]
	switch sel {
	case api.GlkSelect:
		m.choose(a[0])
	case api.GlkLineAsk:
		if w.asks == "" && w.kind > 2 {
			w.asks, w.to, w.most = "line", a[1], a[2]
		}
	case api.GlkCharAsk:
		if w.asks == "" && w.kind > 2 {
			w.asks = "char"
		}
	case api.GlkLineCancel:
		if w.asks == "line" {
			w.asks = ""
			m.hand(a[1], 3, a[0], 0, 0)
		} else {
			m.hand(a[1], 0, 0, 0, 0)
		}
	case api.GlkCharCancel:
		if w.asks == "char" {
			w.asks = ""
		}
	}
	return 0
}

func (m *model) choose(r uint32) {
	for len(m.inputs) > 0 {
		in := m.inputs[0]
		m.inputs = m.inputs[1:]
		for id := range m.last + 1 {
			w := m.wins[id]
			if w == nil || in.Line && w.asks != "line" || !in.Line && w.asks != "char" {
				continue
			}
			w.asks = ""
			if in.Line {
				m.line(id, in.Text, r)
				return
			}
			m.hand(r, 2, id, append(in.Text, 0)[0], 0)
			return
		}
	}
	stopBy(api.ErrInput)
}

func (m *model) line(id uint32, l []uint32, r uint32) {
	w := m.wins[id]
	if len(l) > int(w.most) {
		l = l[:w.most]
	}
	l = markedAll(l)
	if w.to != 0 && w.to != top {
		m.lay(w.to, 1, l)
	}
	if w.kind == 3 {
		for _, c := range l {
			m.seen(id, c)
		}
		m.seen(id, 10)
	}
	m.hand(r, 3, id, uint32(len(l)), 0)
}

func (m *model) layAll(str uint32, b []byte) bool {
	s := m.strs[str]
	if s == nil || s.win != 0 {
		return false
	}
	var l []uint32
	for _, c := range b {
		l = append(l, uint32(c))
	}
	return m.files.Write(s.number, l...) == api.OK
}

func (m *model) rest(str uint32) ([]byte, bool) {
	s := m.strs[str]
	if s == nil || s.win != 0 {
		return nil, false
	}
	if _, e := m.files.Line(s.number, 0); e != api.OK {
		return nil, false
	}
	var b []byte
	for {
		c, ok, _ := m.files.Read(s.number)
		if !ok {
			return b, true
		}
		b = append(b, byte(marked(c)))
	}
}

// told: all that was told, as Out has it.
func (m *model) told() (l []api.Said) {
	for i, x := range m.said {
		if i == 0 || m.said[i-1][0] != x[0] {
			l = append(l, api.Said{Win: x[0]})
		}
		l[len(l)-1].Text = append(l[len(l)-1].Text, x[1])
	}
	return l
}

func (m *model) rows(id uint32) [][]uint32 {
	w := m.wins[id]
	if w == nil || w.kind != 4 {
		return nil
	}
	r := m.rect(w)
	all := make([][]uint32, r.H)
	for y := range all {
		for x := range r.W {
			c, ok := w.cells[[2]int{x, y}]
			if !ok {
				c = ' '
			}
			all[y] = append(all[y], c)
		}
	}
	return all
}

func (m *model) textOf(id uint32) []uint32 {
	if w := m.wins[id]; w != nil {
		return w.text
	}
	return nil
}

func sameSaid(a, b []api.Said) bool {
	return slices.EqualFunc(a, b, func(x, y api.Said) bool { return x.Win == y.Win && slices.Equal(x.Text, y.Text) })
}

func sameRows(a, b [][]uint32) bool {
	return slices.EqualFunc(a, b, slices.Equal[[]uint32])
}

// both is a world and the same by the words; each call is made on both of them.
type both struct {
	t *testing.T
	g *World
	m *model
	s *room // the world's; the model has its own
}

// begin: a world without objects, and a space of nothing but 0.
func begin(t *testing.T, w, h int, inputs ...api.Input) *both {
	t.Helper()
	g, e := New(w, h, inputs...)
	m, f := newModel(w, h, inputs)
	if g == nil || e != api.OK || f != api.OK {
		t.Fatalf("New(%d, %d) = %v, %d", w, h, g, e)
	}
	b := &both{t, g, m, newRoom()}
	m.s = newRoom()
	b.expectModel("new")
	return b
}

// put: bytes lie in both spaces.
func (b *both) put(addr uint32, text string) {
	b.s.put(addr, text)
	b.m.s.put(addr, text)
}

// refusing: the spaces answer so many questions more, and to others that.
func (b *both) refusing(left int, e api.Errno) {
	b.s.left, b.m.s.left = left, left
	b.s.refusal, b.m.s.refusal = e, e
}

// willing: the spaces answer all questions.
func (b *both) willing() { b.refusing(1<<40, 0) }

// ids: those of which it is asked: all that were given, and some that were not.
func (b *both) ids() []uint32 {
	l := []uint32{top, top - 1, 1 << 31, 1 << 16}
	for id := range b.m.last + 4 {
		l = append(l, id)
	}
	return l
}

// expectModel: what the world tells is as the words say.
func (b *both) expectModel(what string) {
	b.t.Helper()
	if is, want := b.g.Out(), b.m.told(); !sameSaid(is, want) {
		b.t.Fatalf("%s: Out() = %v, not %v", what, is, want)
	}
	for _, id := range b.ids() {
		if is, want := b.g.Text(id), b.m.textOf(id); !slices.Equal(is, want) {
			b.t.Fatalf("%s: Text(%d) = %v, not %v", what, id, is, want)
		}
		if is, want := b.g.Rows(id), b.m.rows(id); !sameRows(is, want) {
			b.t.Fatalf("%s: Rows(%d) = %v, not %v", what, id, is, want)
		}
	}
	if is, want := b.g.Names(), b.m.files.Names(); !slices.Equal(is, want) {
		b.t.Fatalf("%s: Names() = %q, not %q", what, is, want)
	}
	for _, name := range append(b.m.files.Names(), "", "none") {
		is, ok := b.g.File(name)
		if want, there := b.m.files.Get(name); string(is) != string(want) || ok != there {
			b.t.Fatalf("%s: File(%q) = %q, %t; not %q, %t", what, name, is, ok, want, there)
		}
	}
	if b.g.Left() != len(b.m.inputs) || b.g.Over() != b.m.over {
		b.t.Fatalf("%s: Left() = %d, not %d; Over() = %t", what, b.g.Left(), len(b.m.inputs), b.g.Over())
	}
	if !b.s.same(b.m.s) {
		b.t.Fatalf("%s: another memory, or %v is pushed, not %v; %d questions are left, not %d", what, b.s.stack, b.m.s.stack, b.s.left, b.m.s.left)
	}
}

// call: a call on both; all that is told then is alike.
func (b *both) call(sel uint32, args ...uint32) (uint32, api.Errno) {
	b.t.Helper()
	what := fmt.Sprintf("Call(%x, %v)", sel, args)
	handed := slices.Clone(args)
	want, f := b.m.call(sel, args)
	x, e := b.g.Call(b.s, sel, handed...)
	if x != want || e != f || !slices.Equal(handed, args) {
		b.t.Fatalf("%s = %d, %d; not %d, %d", what, x, e, want, f)
	}
	b.expectModel(what)
	return x, e
}

// gives: the call answers that, and OK.
func (b *both) gives(want, sel uint32, args ...uint32) {
	b.t.Helper()
	if x, e := b.call(sel, args...); x != want || e != api.OK {
		b.t.Fatalf("Call(%x, %v) = %d, %d; not %d", sel, args, x, e, want)
	}
}

// does: the call answers 0 and OK.
func (b *both) does(sel uint32, args ...uint32) {
	b.t.Helper()
	b.gives(0, sel, args...)
}

// refuses: the call answers that error.
func (b *both) refuses(want api.Errno, sel uint32, args ...uint32) {
	b.t.Helper()
	if x, e := b.call(sel, args...); x != 0 || e != want {
		b.t.Fatalf("Call(%x, %v) = %d, %d; not the error %d", sel, args, x, e, want)
	}
}

// pushes: the call answers that, and pushes just these.
func (b *both) pushes(l []uint32, want, sel uint32, args ...uint32) {
	b.t.Helper()
	b.s.stack, b.m.s.stack = nil, nil
	b.gives(want, sel, args...)
	b.pushed(l...)
}

// pushed: just these have been pushed.
func (b *both) pushed(l ...uint32) {
	b.t.Helper()
	if !slices.Equal(b.s.stack, l) {
		b.t.Fatalf("%v is pushed, not %v", b.s.stack, l)
	}
	b.s.stack, b.m.s.stack = nil, nil
}

// holds: the memory has these bytes there.
func (b *both) holds(addr uint32, want string) {
	b.t.Helper()
	if is := b.s.text(addr, len(want)); is != want {
		b.t.Fatalf("%q at %x, not %q", is, addr, want)
	}
}

// told: Out is just these.
func (b *both) told(want ...api.Said) {
	b.t.Helper()
	if is := b.g.Out(); !sameSaid(is, want) {
		b.t.Fatalf("Out() = %v, not %v", is, want)
	}
}

// reads: a window has that text.
func (b *both) reads(win uint32, want string) {
	b.t.Helper()
	if is := b.g.Text(win); !slices.Equal(is, chars(want)) {
		b.t.Fatalf("Text(%d) = %v, not %q", win, is, want)
	}
}

// shows: a grid has these rows.
func (b *both) shows(win uint32, want ...string) {
	b.t.Helper()
	is := b.g.Rows(win)
	if !slices.EqualFunc(is, want, func(row []uint32, s string) bool { return slices.Equal(row, chars(s)) }) {
		b.t.Fatalf("Rows(%d) = %v, not %q", win, is, want)
	}
}

// has: a file has these bytes.
func (b *both) has(name, want string) {
	b.t.Helper()
	if is, ok := b.g.File(name); string(is) != want || !ok {
		b.t.Fatalf("File(%q) = %q, %t; not %q", name, is, ok, want)
	}
}

// chars: the characters of a text, each of one byte.
func chars(s string) (l []uint32) {
	for i := range len(s) {
		l = append(l, uint32(s[i]))
	}
	return l
}

// said: what was told in a window.
func said(win uint32, s string) api.Said { return api.Said{Win: win, Text: chars(s)} }

// line and char: inputs.
func line(s string) api.Input { return api.Input{Line: true, Text: chars(s)} }

func char(l ...uint32) api.Input { return api.Input{Text: l} }

// setFile: a file is laid in both.
func (b *both) setFile(name, data string) api.Errno {
	b.t.Helper()
	handed := []byte(data)
	want := b.m.files.Put(name, []byte(data))
	if e := b.g.SetFile(name, handed); e != want || string(handed) != data {
		b.t.Fatalf("SetFile(%q, %.50q) = %d, not %d", name, data, e, want)
	}
	b.expectModel("SetFile")
	return want
}

// lays: Lay on both answers that.
func (b *both) lays(str uint32, data string, want bool) {
	b.t.Helper()
	handed := []byte(data)
	words := b.m.layAll(str, []byte(data))
	if is := b.g.Lay(str, handed); is != want || words != want || string(handed) != data {
		b.t.Fatalf("Lay(%d, %.50q) = %t, by the words %t", str, data, is, words)
	}
	b.expectModel("Lay")
}

// rests: Rest on both answers that.
func (b *both) rests(str uint32, want string) {
	b.t.Helper()
	words, there := b.m.rest(str)
	if is, ok := b.g.Rest(str); string(is) != want || !ok || string(words) != want || !there {
		b.t.Fatalf("Rest(%d) = %q, %t; not %q", str, is, ok, want)
	}
	b.expectModel("Rest")
}

// restsNot: Rest on both answers that there is none.
func (b *both) restsNot(str uint32) {
	b.t.Helper()
	words, there := b.m.rest(str)
	if is, ok := b.g.Rest(str); len(is) != 0 || ok || len(words) != 0 || there {
		b.t.Fatalf("Rest(%d) = %q, %t", str, is, ok)
	}
	b.expectModel("Rest")
}

// wrote: Put on both.
func (b *both) wrote(l ...uint32) {
	b.t.Helper()
	for _, c := range l {
		if !b.m.over {
			b.m.comes(b.m.current, c)
		}
		b.g.Put(c)
	}
	b.expectModel("Put")
}

// write: each byte comes to the current stream.
func (b *both) write(s string) {
	b.t.Helper()
	for _, c := range chars(s) {
		b.does(api.GlkPut, c)
	}
}

// reference: a reference to that file, whose name is laid at 0x240.
func (b *both) reference(name string, want uint32) {
	b.t.Helper()
	b.put(0x240, name+"\x00")
	b.gives(want, api.GlkRefName, 0, 0x240, 90+want)
}

// By chance

// someOf: one of l.
func someOf[T any](r *rand.Rand, l ...T) T { return l[r.Intn(len(l))] }

// someChars: characters with the edges among them.
func someChars() []uint32 {
	return []uint32{0, 1, 9, 10, 10, 11, 31, 32, 63, 64, 65, 90, 91, 97, 122, 126, 127, 159, 160, 192, 215, 222, 223, 247, 254, 255, 256, 257, 266, 300, 1 << 16, 1<<31 + 65, top - 1, top}
}

// someAddrs: places with the edges among them, such as can only be read, and such as are not there.
func someAddrs() []uint32 {
	return []uint32{0, top, 1, 2, 0x80, 0x240, 0x241, 0x300, 0x310, 0x320, 0x3fd, 0x3fe, 0x3ff, 0x400, 0x480, 0x4ff, 0x500, 0x5ffc, 0x5fff, 0x6000, 1 << 31, high - 1, high, top - 1, top - 2, top - 3, top - 4, top - 6, top - 9}
}

// someInputs: what comes from outside by chance.
func someInputs(r *rand.Rand) (l []api.Input) {
	for range r.Intn(30) {
		in := api.Input{Line: r.Intn(2) == 0}
		for range r.Intn(12) {
			in.Text = append(in.Text, someOf(r, someChars()...))
		}
		l = append(l, in)
	}
	return l
}

// someId: one of a kind of object mostly, else another one, one that is gone, or none.
func (b *both) someId(r *rand.Rand, kind rune) uint32 {
	var l []uint32
	switch kind {
	case 'w':
		l = slices.Sorted(maps.Keys(b.m.wins))
	case 's':
		l = slices.Sorted(maps.Keys(b.m.strs))
	case 'f':
		l = slices.Sorted(maps.Keys(b.m.refs))
	}
	if len(l) > 0 && r.Intn(12) > 0 {
		return someOf(r, l...)
	}
	return someOf(r, b.ids()...)
}

// someArg: an argument by the letter that the table of forms has for it.
func (b *both) someArg(r *rand.Rand, letter rune) uint32 {
	switch letter {
	case 'w', 's', 'f':
		return b.someId(r, letter)
	case 'W', 'S':
		return someOf[uint32](r, 0, b.someId(r, letter-'A'+'a'), b.someId(r, letter-'A'+'a'))
	case 'i':
		return someOf(r, b.ids()...)
	case 'r':
		return someOf[uint32](r, 0, top, 0x300, 0x304, someOf(r, someAddrs()...))
	case 'a':
		return someOf(r, 0x300, 0x340, someOf(r, someAddrs()...))
	case 'A':
		return someOf(r, 0x240, 0x241, 0x242, 0x243, 0x243, someOf(r, someAddrs()...))
	case 'c':
		return someOf(r, 65, 66, someOf(r, someChars()...), someOf(r, someChars()...))
	case 'm':
		return someOf[uint32](r, 16, 17, 18, 19, 32, 33, 34, 35, 16, 17, 18, 19, 32, 33, 34, 35, 0, 20, 48, top-15)
	case 'z':
		return someOf[uint32](r, 0, 1, 2, 3, 5, 30, 50, 70, 100, top)
	case 'k':
		return someOf[uint32](r, 2, 3, 4, 3, 4, 3, 4, 0, 1, 5, top)
	case 'l':
		return someOf[uint32](r, 0, 1, 2, 3, 4, 7, 9, 20, 40, 4097, top)
	case 'p':
		return someOf[uint32](r, 1, 2, 3, 5, 1, 2, 3, 5, 0, 4, top)
	case 'q':
		return someOf[uint32](r, 0, 1, 2, 3, 5, 100, 1<<31-1, 1<<31, top-2, top-1, top)
	case 'h':
		return someOf[uint32](r, 0, 1, 2, 0, 1, 2, 3, top)
	case 'x':
		return someOf[uint32](r, 0, 1, 2, 3, 4, 5, 6, 7, 8, 100, 1<<31, top)
	case 'g':
		return someOf[uint32](r, 0, 1, 2, 3, 4, top)
	}
	return r.Uint32()
}

// someCall: a call by chance, on both.
func (b *both) someCall(r *rand.Rand) {
	b.t.Helper()
	f := someOf(r, forms()...)
	switch f.sel {
	case api.GlkExit:
		if r.Intn(8) > 0 {
			return
		}
	case api.GlkWinClose, api.GlkRefDestroy:
		if r.Intn(3) > 0 {
			return
		}
	}
	args := make([]uint32, 0, 6)
	for _, letter := range f.args {
		args = append(args, b.someArg(r, letter))
	}
	if f.sel == api.GlkPutBuffer || f.sel == api.GlkLineAsk {
		// A memory that goes round answers for ever; a line is not so long.
		args[len(f.args)-len(f.args)/2-1] %= 50
	}
	if r.Intn(60) == 0 {
		args = append(args, 1)
	}
	b.call(f.sel, args...)
}

// someOther: what else may be done, by chance.
func (b *both) someOther(r *rand.Rand) {
	b.t.Helper()
	data := make([]byte, r.Intn(12))
	r.Read(data)
	str := b.someId(r, 's')
	switch r.Intn(4) {
	case 0:
		b.setFile(someOf(r, "a", "ab", "abc", "", "bc"), string(data))
	case 1:
		is := b.g.Lay(str, data)
		if want := b.m.layAll(str, data); is != want {
			b.t.Fatalf("Lay(%d, %q) = %t", str, data, is)
		}
		b.expectModel("Lay")
	case 2:
		is, ok := b.g.Rest(str)
		if want, there := b.m.rest(str); string(is) != string(want) || ok != there {
			b.t.Fatalf("Rest(%d) = %q, %t; not %q, %t", str, is, ok, want, there)
		}
		b.expectModel("Rest")
	case 3:
		b.wrote(someOf(r, someChars()...))
	}
}

// someStep: a call, or something else, by chance; now and then of a space that refuses soon.
func (b *both) someStep(r *rand.Rand) {
	b.t.Helper()
	if r.Intn(10) == 0 {
		b.refusing(r.Intn(4), someOf(r, api.FatalRead, api.FatalOver, api.FatalHeap, api.Errno(-5)))
	}
	if r.Intn(12) == 0 {
		b.someOther(r)
	} else {
		b.someCall(r)
	}
	b.willing()
}

// someWorld: a world of which that many steps were made.
func someWorld(t *testing.T, r *rand.Rand, steps int) *both {
	t.Helper()
	b := begin(t, someOf(r, 0, 1, 2, 5, 8, 12), someOf(r, 0, 1, 2, 4, 7), someInputs(r)...)
	b.put(0x240, "abc\x00")
	b.put(0x300, "some text\nand some more\xff\x80\x00and")
	b.call(api.GlkWinOpen, 0, 0, 0, someOf[uint32](r, 3, 3, 4, 2), 7)
	for range steps {
		b.someStep(r)
	}
	return b
}
