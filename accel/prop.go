package accel

import (
	"grotto/api"
	"grotto/find"
)

// From ownProps on an id tells a class beside a property: it is its lower two bytes.
const ownProps = 1 << 16

// tab: where an object's property stands in its table; 0, if it is not there.
func (l look) tab(a, b uint32) (uint32, halt) {
	if l.region(a) != isObject {
		return 0, halt{slip: api.SlipFind}
	}
	t, h := l.read(a+wordSize*(wordsAhead+l.attrs/wordSize), wordSize)
	if h.ends() || t == 0 {
		return 0, h
	}
	count, h := l.read(t, wordSize)
	if h.ends() {
		return 0, h
	}
	x, e := find.Binary(l.m, api.Search{Key: b, KeySize: keySize, Start: t + wordSize, Size: propSize, Count: count})
	return x, halt{e: e}
}

// prop: where an object's property stands, or a class's own one, which the object has from it; 0, if it is not there or not to be seen.
func (l look) prop(a, b uint32) (uint32, halt) {
	if b < ownProps {
		return l.shown(a, b, false)
	}
	c, h := l.read(l.params[api.ParamClasses]+wordSize*(b%ownProps), wordSize)
	if h.ends() {
		return 0, h
	}
	x, h := l.of(a, c)
	if h.ends() || x == 0 {
		return 0, h
	}
	return l.shown(c, b/ownProps, c != 0)
}

// shown: as tab, but 0 of what is not to be seen; own: is it a class's own one that is asked for?
func (l look) shown(a, b uint32, own bool) (uint32, halt) {
	p, h := l.tab(a, b)
	if h.ends() || p == 0 {
		return 0, h
	}
	if !own {
		hidden, h := l.hidden(a, b)
		if h.ends() || hidden {
			return 0, h
		}
	}
	barred, h := l.barred(a, p)
	if h.ends() || barred {
		return 0, h
	}
	return p, halt{}
}

// hidden: is it a class of whose properties these are not for the class itself?
func (l look) hidden(a, b uint32) (bool, halt) {
	class, h := l.inClass(a)
	return class && !l.isClassProp(b), h
}

// barred: is the property at p only for the object itself, and it is another one's turn?
func (l look) barred(a, p uint32) (bool, halt) {
	self, h := l.read(l.params[api.ParamSelf], wordSize)
	if h.ends() || self == a {
		return false, h
	}
	flag, h := l.read(p+propFlag, byteSize)
	return flag%2 != 0, h
}

// addr: where the numbers of a property lie; 0, if there are none.
func (l look) addr(a, b uint32) (uint32, halt) {
	p, h := l.prop(a, b)
	if h.ends() || p == 0 {
		return 0, h
	}
	return l.read(p+propAddr, wordSize)
}

// length: how many bytes a property has.
func (l look) length(a, b uint32) (uint32, halt) {
	p, h := l.prop(a, b)
	if h.ends() || p == 0 {
		return 0, h
	}
	n, h := l.read(p+propLen, halfSize)
	return wordSize * n, h
}

// value: what an object's property is; if it has none, what it is by default.
func (l look) value(a, b uint32) (uint32, halt) {
	x, h := l.addr(a, b)
	switch {
	case h.ends():
		return 0, h
	case x != 0:
		return l.read(x, wordSize)
	case b > 0 && b < l.params[api.ParamIndiv]:
		return l.read(l.params[api.ParamDefaults]+wordSize*b, wordSize)
	}
	return 0, halt{slip: api.SlipRead}
}
