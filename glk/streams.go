package glk

import "grotto/api"

// stream is a stream that is not a window's.
type stream struct {
	number int    // on the shelf
	from   uint32 // of a buffer: where its characters were taken from
	width  int    // of a buffer: in how many bytes each of them stands there
}

// widthOf: in how many bytes a character stands in memory.
func widthOf(wide bool) int {
	if wide {
		return 4
	}
	return 1
}

// addStream: one stream more; its id.
func (g *World) addStream(s *stream, rock uint32) (uint32, api.Errno) {
	return g.add(&object{kind: aStream, rock: rock, str: s}).id, api.OK
}

// come: a character comes to a stream.
func (g *World) come(o *object, c uint32) {
	if o.win == nil {
		g.files.Write(o.str.number, c)
		return
	}
	o.win.came++
	g.show(o.win, c)
}

// comeToCurrent: a character comes to the current stream, if one is.
func (g *World) comeToCurrent(c uint32) {
	if o := g.find(aStream, g.current); o != nil {
		g.come(o, c)
	}
}

func strFile(g *World, c call) (uint32, api.Errno) {
	number, e := g.files.Open(c.on.name, int(c.args[1]), c.wide)
	if e != api.OK {
		return 0, api.OK
	}
	return g.addStream(&stream{number: number}, c.args[2])
}

func strMemory(g *World, c call) (uint32, api.Errno) {
	from, n, width := c.args[0], c.args[1], widthOf(c.wide)
	if n > api.MaxBuffer {
		return 0, api.OK
	}
	if !isPlace(from) {
		n = 0
	}
	l, e := c.space.take(from, width, n)
	if e != api.OK {
		return 0, e
	}
	number, e := g.files.Buffer(l, int(c.args[2]), c.wide)
	if e != api.OK {
		return 0, api.OK
	}
	return g.addStream(&stream{number, from, width}, c.args[3])
}

func strClose(g *World, c call) (uint32, api.Errno) {
	s := c.on.str
	if s == nil {
		return 0, api.OK
	}
	read, written, l, _ := g.files.Close(s.number)
	g.dropOne(c.on)
	if written != 0 {
		if e := c.space.lay(s.from, s.width, l); e != api.OK {
			return 0, e
		}
	}
	return c.handed(0, c.args[1], read, written)
}

func strSeek(g *World, c call) (uint32, api.Errno) {
	if s := c.on.str; s != nil {
		g.files.Seek(s.number, int(int32(c.args[1])), int(c.args[2]))
	}
	return 0, api.OK
}

func strTell(g *World, c call) (uint32, api.Errno) {
	if c.on.win != nil {
		return c.on.win.came, api.OK
	}
	place, _, _ := g.files.Tell(c.on.str.number)
	return uint32(place), api.OK
}

func strSet(g *World, c call) (uint32, api.Errno) {
	if id := c.args[0]; id == 0 || g.find(aStream, id) != nil {
		g.current = id
	}
	return 0, api.OK
}

func strCurrent(g *World, _ call) (uint32, api.Errno) {
	return g.current, api.OK
}
