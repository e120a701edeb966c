package iff

import (
	"bytes"
	"encoding/binary"
	"math/rand"
	"slices"
	"testing"

	"grotto/api"
)

// laid: bytes in a row; an int is a number of four bytes.
func laid(parts ...any) []byte {
	var b []byte
	for _, x := range parts {
		switch x := x.(type) {
		case string:
			b = append(b, x...)
		case []byte:
			b = append(b, x...)
		case int:
			b = binary.BigEndian.AppendUint32(b, uint32(x))
		}
	}
	return b
}

// formOf: FORM, the right number, and what stands behind it.
func formOf(parts ...any) []byte {
	rest := laid(parts...)
	return laid("FORM", len(rest), rest)
}

// repeated: n times the same chunk.
func repeated(n int, c api.Chunk) []api.Chunk {
	return slices.Repeat([]api.Chunk{c}, n)
}

// sameChunks: are these the same, nil data being like empty data?
func sameChunks(a, b []api.Chunk) bool {
	return slices.EqualFunc(a, b, func(x, y api.Chunk) bool {
		return x.Id == y.Id && bytes.Equal(x.Data, y.Data)
	})
}

// expectTaken: Parse takes b as this.
func expectTaken(t *testing.T, b []byte, kind string, l ...api.Chunk) {
	t.Helper()
	k, m, e, at := Parse(b)
	if k != kind || !sameChunks(m, l) || e != api.OK || at != len(b) {
		t.Errorf("Parse of %d bytes: %q, %d chunks, %d at %d; not %q, %d chunks, OK at %d", len(b), k, len(m), e, at, kind, len(l), len(b))
	}
}

// expectFault: Parse tells this fault of b, and nothing else.
func expectFault(t *testing.T, what string, b []byte, e api.Errno, at int) {
	t.Helper()
	k, l, f, place := Parse(b)
	if k != "" || len(l) != 0 || f != e || place != at {
		t.Errorf("%s: Parse = %q, %d chunks, %d at %d; not %d at %d", what, k, len(l), f, place, e, at)
	}
}

const letters = " !09AZaz}~"

// someId: four letters by chance.
func someId(r *rand.Rand) string {
	b := make([]byte, 4)
	for i := range b {
		b[i] = letters[r.Intn(len(letters))]
	}
	return string(b)
}

// someChunks: a few chunks by chance, with short data.
func someChunks(r *rand.Rand) []api.Chunk {
	l := make([]api.Chunk, r.Intn(5))
	for i := range l {
		l[i].Id = someId(r)
		l[i].Data = make([]byte, r.Intn(8))
		r.Read(l[i].Data)
	}
	return l
}

// isId: by the words of P5.1 alone.
func isId(b []byte) bool {
	return len(b) == 4 && !slices.ContainsFunc(b, func(c byte) bool { return c < 0x20 || c > 0x7e })
}

// faultOf: what the words of P5.3 say of b, fault by fault, eating it up from the left.
func faultOf(b []byte) (api.Errno, int) {
	all := len(b)
	switch {
	case all > 4194304:
		return api.ErrLong, 0
	case !bytes.HasPrefix([]byte("FORM"), b) && !bytes.HasPrefix(b, []byte("FORM")):
		return api.ErrForm, 0
	case all < 12:
		return api.ErrShort, all
	case int64(binary.BigEndian.Uint32(b[4:])) != int64(all)-8:
		return api.ErrSize, 4
	case !isId(b[8:12]):
		return api.ErrForm, 8
	}
	rest := b[12:]
	for n := 0; len(rest) > 0; n++ {
		p := all - len(rest)
		switch {
		case n == 1024:
			return api.ErrMany, p
		case len(rest) < 8:
			return api.ErrShort, all
		case !isId(rest[:4]):
			return api.ErrForm, p
		}
		size := int64(binary.BigEndian.Uint32(rest[4:]))
		rest = rest[8:]
		if size > int64(len(rest)) {
			return api.ErrSize, p + 4
		}
		rest = rest[size:]
		if size%2 == 1 {
			if len(rest) == 0 {
				return api.ErrShort, all
			}
			if rest[0] != 0 {
				return api.ErrPad, all - len(rest)
			}
			rest = rest[1:]
		}
	}
	return api.OK, all
}
