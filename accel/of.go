package accel

import "grotto/api"

// classesProp is the property that names an object's classes.
const classesProp = 2

// What a routine has (call) and what a text has (the two others), counted from Indiv.
const (
	callProp  = 5
	printProp = 6
	arrayProp = 7
)

// of: 1, if what lies at a is of the class b; else 0.
func (l look) of(a, b uint32) (uint32, halt) {
	switch l.region(a) {
	case isText:
		return one(b == l.params[api.ParamString]), halt{}
	case isRoutine:
		return one(b == l.params[api.ParamRoutine]), halt{}
	case isObject:
		so, h := l.objectOf(a, b)
		return one(so), h
	}
	return 0, halt{}
}

// objectOf: is an object of the class b?
func (l look) objectOf(a, b uint32) (bool, halt) {
	switch b {
	case l.params[api.ParamClass]:
		return l.isClass(a)
	case l.params[api.ParamObject]:
		class, h := l.isClass(a)
		return !class && !h.ends(), h
	case l.params[api.ParamString], l.params[api.ParamRoutine]:
		return false, halt{}
	}
	class, h := l.inClass(b)
	switch {
	case h.ends():
		return false, h
	case !class:
		return false, halt{slip: api.SlipClass}
	}
	return l.names(a, b)
}

// isClass: is an object a class, be it one of the four that are there in every game?
func (l look) isClass(a uint32) (bool, halt) {
	class, h := l.inClass(a)
	if h.ends() || class {
		return class, h
	}
	switch a {
	case l.params[api.ParamClass], l.params[api.ParamString], l.params[api.ParamRoutine], l.params[api.ParamObject]:
		return true, halt{}
	}
	return false, halt{}
}

// names: is b among the classes that an object names?
func (l look) names(a, b uint32) (bool, halt) {
	p, h := l.prop(a, classesProp)
	if h.ends() || p == 0 {
		return false, h
	}
	row, h := l.read(p+propAddr, wordSize)
	if h.ends() || row == 0 {
		return false, h
	}
	count, h := l.read(p+propLen, halfSize)
	if h.ends() {
		return false, h
	}
	for i := range count {
		x, h := l.read(row+wordSize*i, wordSize)
		if h.ends() || x == b {
			return !h.ends(), h
		}
	}
	return false, halt{}
}

// has: 1, if what lies at a has a property; else 0.
func (l look) has(a, b uint32) (uint32, halt) {
	indiv := l.params[api.ParamIndiv]
	switch l.region(a) {
	case isText:
		return one(b == indiv+printProp || b == indiv+arrayProp), halt{}
	case isRoutine:
		return one(b == indiv+callProp), halt{}
	case isObject:
		return l.objectHas(a, b)
	}
	return 0, halt{}
}

// objectHas: 1, if an object has a property; else 0.
func (l look) objectHas(a, b uint32) (uint32, halt) {
	if l.isClassProp(b) {
		class, h := l.inClass(a)
		if h.ends() || class {
			return one(class), h
		}
	}
	x, h := l.addr(a, b)
	return one(x != 0), h
}
