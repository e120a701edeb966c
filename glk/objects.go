package glk

import (
	"cmp"
	"slices"
)

// kind is what an object is.
type kind int

const (
	noObject kind = iota
	aWindow
	aStream
	aReference
)

// object is a window, a stream or a file reference.
type object struct {
	id   uint32
	kind kind
	rock uint32
	win  *window // of a window, and of a window's stream
	str  *stream // of a stream that is not a window's
	name string  // of a reference: its file's
}

// add: one object more, which has the next id.
func (g *World) add(o *object) *object {
	o.id = g.last.Add(1)
	g.objects = append(g.objects, o)
	return o
}

// drop: some are objects no more; if the current stream is one of them, none is.
func (g *World) drop(isGone func(*object) bool) {
	g.objects = slices.DeleteFunc(g.objects, isGone)
	if g.find(aStream, g.current) == nil {
		g.current = 0
	}
}

// dropOne: that is an object no more.
func (g *World) dropOne(o *object) {
	g.drop(func(other *object) bool { return other == o })
}

// find: the object of that kind and id; nil, if there is none.
func (g *World) find(k kind, id uint32) *object {
	if g == nil {
		return nil
	}
	i, found := slices.BinarySearchFunc(g.objects, id, func(o *object, id uint32) int { return cmp.Compare(o.id, id) })
	if !found || g.objects[i].kind != k {
		return nil
	}
	return g.objects[i]
}

// next: the object of that kind with the least id above that one; nil, if there is none.
func (g *World) next(k kind, id uint32) *object {
	for _, o := range g.objects {
		if o.kind == k && o.id > id {
			return o
		}
	}
	return nil
}

// count: how many objects of that kind there are.
func (g *World) count(k kind) int {
	n := 0
	for _, o := range g.objects {
		if o.kind == k {
			n++
		}
	}
	return n
}
