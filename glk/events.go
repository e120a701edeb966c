package glk

import "grotto/api"

// request is what a window asks for: of a line how many characters it has at most, and where they are to lie.
type request struct {
	what asking
	addr uint32
	most uint32
}

// asking is what a window may ask for.
type asking int

const (
	forNothing asking = iota
	forLine
	forChar
)

// askingFor: what a window asks for that gets this input.
func askingFor(in api.Input) asking {
	if in.Line {
		return forLine
	}
	return forChar
}

// askFor: a window asks for that, if it may ask, and asks for nothing yet.
func (w *window) askFor(r request) {
	if (w.kind == api.WinText || w.kind == api.WinGrid) && w.asks.what == forNothing {
		w.asks = r
	}
}

// cancel: a window asks for that no more; did it?
func (w *window) cancel(what asking) bool {
	if w.asks.what != what {
		return false
	}
	w.asks = request{}
	return true
}

// asker: the window of the least id that asks for that; nil, if none does.
func (g *World) asker(what asking) *window {
	for _, o := range g.objects {
		if o.kind == aWindow && o.win.asks.what == what {
			return o.win
		}
	}
	return nil
}

// nextInput: the next input that some window asks for, and that window; false, if there is none.
func (g *World) nextInput() (in api.Input, w *window, ok bool) {
	for len(g.inputs) > 0 {
		in, g.inputs = g.inputs[0], g.inputs[1:]
		if w := g.asker(askingFor(in)); w != nil {
			return in, w, true
		}
	}
	return api.Input{}, nil, false
}

func exit(g *World, _ call) (uint32, api.Errno) {
	g.over = true
	return 0, api.OK
}

func selectEvent(g *World, c call) (uint32, api.Errno) {
	in, w, ok := g.nextInput()
	if !ok {
		return 0, api.ErrInput
	}
	asked := w.asks
	w.asks = request{}
	if in.Line {
		return g.lineEvent(c, w, asked, in.Text)
	}
	first := uint32(0)
	if len(in.Text) > 0 {
		first = in.Text[0]
	}
	return c.handed(0, c.args[0], api.EventChar, w.id, first, 0)
}

// lineEvent: a line comes to a window that asked for it.
func (g *World) lineEvent(c call, w *window, asked request, text []uint32) (uint32, api.Errno) {
	l := narrowed(text[:min(uint64(len(text)), uint64(asked.most))])
	if isPlace(asked.addr) {
		if e := c.space.lay(asked.addr, 1, l); e != api.OK {
			return 0, e
		}
	}
	if w.kind == api.WinText {
		// Seen, though its stream has not written it.
		for _, x := range append(l, lineEnd) {
			g.show(w, x)
		}
	}
	return c.handed(0, c.args[0], api.EventLine, w.id, uint32(len(l)), 0)
}

func lineAsk(_ *World, c call) (uint32, api.Errno) {
	c.on.win.askFor(request{forLine, c.args[1], c.args[2]})
	return 0, api.OK
}

func charAsk(_ *World, c call) (uint32, api.Errno) {
	c.on.win.askFor(request{what: forChar})
	return 0, api.OK
}

func lineCancel(_ *World, c call) (uint32, api.Errno) {
	if c.on.win.cancel(forLine) {
		return c.handed(0, c.args[1], api.EventLine, c.on.id, 0, 0)
	}
	return c.handed(0, c.args[1], 0, 0, 0, 0)
}

func charCancel(_ *World, c call) (uint32, api.Errno) {
	c.on.win.cancel(forChar)
	return 0, api.OK
}
