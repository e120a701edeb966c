package accel

import "grotto/api"

// Table is which functions are hastened.
type Table struct {
	params [api.Params]uint32
	funcs  map[uint32]uint32
}

// New: a table without functions.
func New() *Table {
	return &Table{funcs: map[uint32]uint32{}}
}

// Param: a param is this.
func (t *Table) Param(i, x uint32) {
	if t != nil && i < api.Params {
		t.params[i] = x
	}
}

// Params: all params.
func (t *Table) Params() []uint32 {
	if t == nil {
		return nil
	}
	// A copy's own array: what the caller does with the list is not done to the table.
	params := t.params
	return params[:]
}

// Func: an address has a function.
func (t *Table) Func(n, addr uint32) {
	switch {
	case t == nil || n > api.MaxFast:
		return
	case n == 0:
		delete(t.funcs, addr)
		return
	case t.funcs == nil:
		// A table that New did not make.
		t.funcs = map[uint32]uint32{}
	}
	t.funcs[addr] = n
}

// At: the function of an address.
func (t *Table) At(addr uint32) uint32 {
	if t == nil {
		return 0
	}
	return t.funcs[addr]
}
