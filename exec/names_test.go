package exec

import (
	"testing"

	"grotto/code"
)

// named: the instructions that the chapter lists, and a letter an operand.
func named() map[string]string {
	all := map[string]string{}
	for op := range uint32(0x1000) {
		if letters, ok := code.Signature(op); ok {
			all[code.Name(op)] = letters
		}
	}
	return all
}

// opOf: an instruction's number.
func opOf(t testing.TB, name string) uint32 {
	t.Helper()
	op, ok := code.Op(name)
	if !ok {
		t.Fatal(name)
	}
	return op
}
