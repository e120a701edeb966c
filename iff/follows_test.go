package iff

import (
	"bytes"
	"math/rand"
	"testing"

	"grotto/api"
)

// edgeForms: forms by chance, and those that just may be.
func edgeForms() []struct {
	kind   string
	chunks []api.Chunk
} {
	type form = struct {
		kind   string
		chunks []api.Chunk
	}
	l := []form{
		{"    ", nil},
		{"~~~~", []api.Chunk{{Id: "    "}}},
		{"Kind", []api.Chunk{{Id: "Data", Data: make([]byte, api.MaxForm-20)}}},
		{"Kind", []api.Chunk{{Id: "Data", Data: make([]byte, api.MaxForm-21)}}},
		{"Kind", repeated(api.MaxChunks, api.Chunk{Id: "abcd", Data: []byte("x")})},
		{"Kind", repeated(api.MaxChunks, api.Chunk{Id: "abcd"})},
	}
	r := rand.New(rand.NewSource(8))
	for range 2000 {
		l = append(l, form{someId(r), someChunks(r)})
	}
	return l
}

// P5.6

func TestParseOfBuild(t *testing.T) {
	for _, f := range edgeForms() {
		b, e := Build(f.kind, f.chunks...)
		if e != api.OK {
			t.Fatalf("Build(%q, %d chunks): error %d", f.kind, len(f.chunks), e)
		}
		expectTaken(t, b, f.kind, f.chunks...)
	}
}

func TestBuildOfParse(t *testing.T) {
	r := rand.New(rand.NewSource(6))
	taken := 0
	for range 50000 {
		rest := laid(someId(r))
		for _, c := range someChunks(r) {
			// A number that is not always right lets other chunks be seen, or none.
			n := len(c.Data) + r.Intn(2)*r.Intn(9)
			rest = laid(rest, c.Id, n, c.Data, make([]byte, r.Intn(2)))
		}
		b := formOf(rest)
		kind, l, e, _ := Parse(b)
		if e != api.OK {
			continue
		}
		taken++
		if again, e := Build(kind, l...); e != api.OK || !bytes.Equal(again, b) {
			t.Fatalf("Build of Parse(%q) = %q, %d", b, again, e)
		}
	}
	if taken < 1000 {
		t.Errorf("Parse took %d forms alone", taken)
	}
}

// P5.7

func TestNoBeginningIsAForm(t *testing.T) {
	for _, f := range edgeForms() {
		b, _ := Build(f.kind, f.chunks...)
		// All of a short one; of a long one each length in steps, and those near its end.
		for n := 0; n < len(b); n += 1 + len(b)/512 {
			if _, _, e, _ := Parse(b[:n]); e == api.OK {
				t.Fatalf("the first %d of %d bytes are a form", n, len(b))
			}
		}
		for n := max(0, len(b)-16); n < len(b); n++ {
			if _, _, e, _ := Parse(b[:n]); e == api.OK {
				t.Fatalf("the first %d of %d bytes are a form", n, len(b))
			}
		}
	}
}

// P5.8

func TestLettersAtPlaces(t *testing.T) {
	for _, f := range edgeForms() {
		b, _ := Build(f.kind, f.chunks...)
		places := Places(f.chunks...)
		if len(places) != len(f.chunks) {
			t.Fatalf("%d chunks have %d places", len(f.chunks), len(places))
		}
		for i, p := range places {
			if got := string(b[p : p+4]); got != f.chunks[i].Id {
				t.Fatalf("at %d, the place of chunk %d, stands %q, not %q", p, i, got, f.chunks[i].Id)
			}
			if j, ok := Find(f.chunks[i].Id, f.chunks...); !ok || string(b[places[j]:places[j]+4]) != f.chunks[i].Id {
				t.Fatalf("chunk %d, found for %q, has other letters", j, f.chunks[i].Id)
			}
		}
	}
}
