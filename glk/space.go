package glk

import "grotto/api"

// space is the Space that a call looks at.
type space struct {
	m api.Space
}

// ask: what the Space answers. One that panics, as one does that is made of a nil pointer, has answered ErrNil.
func (s space) ask(question func(api.Space) (uint32, api.Errno)) (x uint32, e api.Errno) {
	defer func() {
		if recover() != nil {
			x, e = 0, api.ErrNil
		}
	}()
	return question(s.m)
}

func (s space) get(addr uint32, n int) (uint32, api.Errno) {
	return s.ask(func(m api.Space) (uint32, api.Errno) { return m.Get(addr, n) })
}

func (s space) set(addr uint32, n int, x uint32) api.Errno {
	_, e := s.ask(func(m api.Space) (uint32, api.Errno) { return 0, m.Set(addr, n, x) })
	return e
}

func (s space) push(x uint32) api.Errno {
	_, e := s.ask(func(m api.Space) (uint32, api.Errno) { return 0, m.Push(x) })
	return e
}

// isPlace: does an address say a place in memory, not none and not the stack?
func isPlace(addr uint32) bool {
	return addr != api.NoAddr && addr != api.StackAddr
}

// hand: numbers are handed to an address.
func (s space) hand(addr uint32, l ...uint32) api.Errno {
	if isPlace(addr) {
		return s.lay(addr, 4, l)
	}
	if addr == api.NoAddr {
		return api.OK
	}
	for _, x := range l {
		if e := s.push(x); e != api.OK {
			return e
		}
	}
	return api.OK
}

// lay: numbers are laid in n bytes each, from an address on.
func (s space) lay(addr uint32, n int, l []uint32) api.Errno {
	for _, x := range l {
		if e := s.set(addr, n, x); e != api.OK {
			return e
		}
		addr += uint32(n)
	}
	return api.OK
}

// take: so many numbers, which stand in n bytes each, from an address on.
func (s space) take(addr uint32, n int, count uint32) ([]uint32, api.Errno) {
	var l []uint32
	for range count {
		x, e := s.get(addr, n)
		if e != api.OK {
			return nil, e
		}
		l = append(l, x)
		addr += uint32(n)
	}
	return l, api.OK
}
