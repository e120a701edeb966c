package blorb

import (
	"bytes"
	"encoding/binary"
	"math/rand"
	"slices"
	"testing"

	"grotto/api"
	"grotto/iff"
)

// laid: bytes in a row; an int is a number of four bytes.
func laid(parts ...any) []byte {
	var b []byte
	for _, x := range parts {
		switch x := x.(type) {
		case string:
			b = append(b, x...)
		case []byte:
			b = append(b, x...)
		case int:
			b = binary.BigEndian.AppendUint32(b, uint32(x))
		}
	}
	return b
}

// formOf: FORM, the right number, and what stands behind it.
func formOf(parts ...any) []byte {
	rest := laid(parts...)
	return laid("FORM", len(rest), rest)
}

// chunkOf: a chunk with the right number, even.
func chunkOf(id string, parts ...any) []byte {
	data := laid(parts...)
	return laid(id, len(data), data, make([]byte, len(data)%2))
}

// indexed: a container whose index has these data, with the chunks that are handed over behind it.
func indexed(index []byte, chunks ...[]byte) []byte {
	return formOf("IFRS", chunkOf("RIdx", index), bytes.Join(chunks, nil))
}

// same: are these the same, nil data being like empty data?
func same(a, b []api.Resource) bool {
	return slices.EqualFunc(a, b, func(x, y api.Resource) bool {
		return x.Usage == y.Usage && x.Number == y.Number && x.Id == y.Id && bytes.Equal(x.Data, y.Data)
	})
}

// expectRead: Read tells these resources of b.
func expectRead(t *testing.T, what string, b []byte, want ...api.Resource) {
	t.Helper()
	l, e, at := Read(b)
	if !same(l, want) || e != api.OK || at != len(b) {
		t.Errorf("%s: Read of %d bytes = %d resources, %d at %d; not %d resources, OK at %d", what, len(b), len(l), e, at, len(want), len(b))
	}
}

// expectFault: Read, and Game if b begins as it asks, tell this fault of b, and nothing else.
func expectFault(t *testing.T, what string, b []byte, e api.Errno, at int) {
	t.Helper()
	if l, f, place := Read(b); len(l) != 0 || f != e || place != at {
		t.Errorf("%s: Read = %d resources, %d at %d; not %d at %d", what, len(l), f, place, e, at)
	}
	if bytes.HasPrefix(b, []byte("FORM")) {
		expectNoGame(t, what, b, e, at)
	}
}

// expectGame: Game tells this game of b.
func expectGame(t *testing.T, what string, b, want []byte) {
	t.Helper()
	if g, e, at := Game(b); !bytes.Equal(g, want) || e != api.OK || at != len(b) {
		t.Errorf("%s: Game of %d bytes = %d bytes, %d at %d; not %d bytes, OK at %d", what, len(b), len(g), e, at, len(want), len(b))
	}
}

// expectNoGame: Game tells this fault of b, and nothing else.
func expectNoGame(t *testing.T, what string, b []byte, e api.Errno, at int) {
	t.Helper()
	if g, f, place := Game(b); len(g) != 0 || f != e || place != at {
		t.Errorf("%s: Game = %d bytes, %d at %d; not %d at %d", what, len(g), f, place, e, at)
	}
}

// expectLaid: Lay lays these resources, and Read tells them again; answers the container.
func expectLaid(t *testing.T, what string, l ...api.Resource) []byte {
	t.Helper()
	b, e := Lay(l...)
	if e != api.OK {
		t.Fatalf("%s: Lay of %d resources: error %d", what, len(l), e)
	}
	expectRead(t, what, b, l...)
	return b
}

// numbered: n resources that differ in their Number alone, each with these data.
func numbered(n int, data string) []api.Resource {
	l := make([]api.Resource, n)
	for i := range l {
		l[i] = api.Resource{Usage: "Pict", Number: uint32(i), Id: "PNG ", Data: []byte(data)}
	}
	return l
}

// someOf: one of these by chance.
func someOf[T any](r *rand.Rand, l ...T) T {
	return l[r.Intn(len(l))]
}

// someResources: up to most resources by chance, no two with one Usage and one Number.
func someResources(r *rand.Rand, most int) []api.Resource {
	var l []api.Resource
	for range r.Intn(most + 1) {
		x := api.Resource{
			Usage:  someOf(r, "Exec", "Pict", "Snd ", "Data", "    ", "~~~~"),
			Number: someOf(r, 0, 1, 2, 0x100, 0x10000, 0x1000000, 1<<31, 1<<32-1, r.Uint32()),
			Id:     someOf(r, "GLUL", "PNG ", "RIdx", "FORM", "    ", "~~~~"),
			Data:   make([]byte, r.Intn(8)),
		}
		r.Read(x.Data)
		if !slices.ContainsFunc(l, func(y api.Resource) bool { return x.Usage == y.Usage && x.Number == y.Number }) {
			l = append(l, x)
		}
	}
	return l
}

// containerOf: the bytes of a container of these resources, each with a chunk of its own, by the words of P6.1 alone.
func containerOf(l ...api.Resource) []byte {
	index := laid(len(l))
	var chunks []byte
	for _, r := range l {
		index = laid(index, r.Usage, int(r.Number), 12+8+4+12*len(l)+len(chunks))
		chunks = laid(chunks, chunkOf(r.Id, r.Data))
	}
	return indexed(index, chunks)
}

// readOf: what the words of P6.2 say of b. Chunks are looked for in b itself, from the left.
func readOf(b []byte) ([]api.Resource, api.Errno, int) {
	kind, chunks, e, at := iff.Parse(b)
	if e != api.OK {
		return nil, e, at
	}
	if kind != "IFRS" {
		return nil, api.ErrKind, 8
	}
	if len(chunks) == 0 || chunks[0].Id != "RIdx" || len(chunks[0].Data) < 4 {
		return nil, api.ErrIndex, 12
	}
	n := int64(binary.BigEndian.Uint32(b[20:]))
	if n*12 != int64(len(chunks[0].Data))-4 {
		return nil, api.ErrIndex, 12
	}
	if n > 512 {
		return nil, api.ErrMany, 12
	}
	var l []api.Resource
	for p := 24; p < 24+12*int(n); p += 12 {
		x := api.Resource{Usage: string(b[p : p+4]), Number: binary.BigEndian.Uint32(b[p+4:])}
		if slices.ContainsFunc([]byte(x.Usage), func(c byte) bool { return c < 0x20 || c > 0x7e }) {
			return nil, api.ErrIndex, p
		}
		for _, y := range l {
			if x.Usage == y.Usage && x.Number == y.Number {
				return nil, api.ErrThere, p
			}
		}
		found := false
		for i, q := 0, 12; i < len(chunks); i++ {
			if i > 0 && int64(q) == int64(binary.BigEndian.Uint32(b[p+8:])) {
				x.Id, x.Data, found = chunks[i].Id, chunks[i].Data, true
			}
			q += 8 + (len(chunks[i].Data)+1)/2*2
		}
		if !found {
			return nil, api.ErrIndex, p + 8
		}
		l = append(l, x)
	}
	return l, api.OK, len(b)
}

// gameOf: what the words of P6.4 say of b.
func gameOf(b []byte) ([]byte, api.Errno, int) {
	if bytes.HasPrefix(b, []byte("Glul")) {
		return b, api.OK, len(b)
	}
	if !bytes.HasPrefix(b, []byte("FORM")) {
		return nil, api.ErrMagic, 0
	}
	l, e, at := readOf(b)
	if e != api.OK {
		return nil, e, at
	}
	for _, r := range l {
		if r.Usage == "Exec" && r.Number == 0 && r.Id == "GLUL" {
			return r.Data, api.OK, len(b)
		}
	}
	return nil, api.ErrExec, 12
}
