package glk

import (
	"slices"

	"grotto/api"
)

// nameAt: the bytes from an address on, up to one that is 0; none, if they are too many for a name.
func (s space) nameAt(addr uint32) (string, api.Errno) {
	var b []byte
	for range api.MaxName + 1 {
		x, e := s.get(addr, 1)
		if e != api.OK {
			return "", e
		}
		if x == 0 {
			return string(b), api.OK
		}
		b = append(b, byte(x))
		addr++
	}
	return "", api.OK
}

func refName(g *World, c call) (uint32, api.Errno) {
	name, e := c.space.nameAt(c.args[1])
	if e != api.OK {
		return 0, e
	}
	if name == "" || g.count(aReference) >= api.MaxStreams {
		return 0, api.OK
	}
	return g.add(&object{kind: aReference, rock: c.args[2], name: name}).id, api.OK
}

func refDestroy(g *World, c call) (uint32, api.Errno) {
	g.dropOne(c.on)
	return 0, api.OK
}

func refDelete(g *World, c call) (uint32, api.Errno) {
	g.files.Delete(c.on.name)
	return 0, api.OK
}

func refExists(g *World, c call) (uint32, api.Errno) {
	if slices.Contains(g.files.Names(), c.on.name) {
		return 1, api.OK
	}
	return 0, api.OK
}
