package blorb

import (
	"bytes"
	"math/rand"
	"slices"
	"testing"

	"grotto/api"
)

// edgeRows: rows of resources by chance, and those that just may be.
func edgeRows() [][]api.Resource {
	rows := [][]api.Resource{
		nil,
		{{Usage: "    ", Number: 1<<32 - 1, Id: "~~~~"}},
		{{Usage: "Exec", Id: "GLUL", Data: make([]byte, api.MaxForm-44)}},
		{{Usage: "Exec", Id: "GLUL", Data: make([]byte, api.MaxForm-45)}},
		numbered(api.MaxResources, ""),
		numbered(api.MaxResources, "a"),
		numbered(api.MaxResources, "ab"),
	}
	r := rand.New(rand.NewSource(65))
	for range 1000 {
		rows = append(rows, someResources(r, 8))
	}
	return rows
}

// P6.5

func TestReadOfLay(t *testing.T) {
	for _, l := range edgeRows() {
		expectLaid(t, "a row of resources", l...)
	}
}

// P6.6

func TestGameWhateverElse(t *testing.T) {
	r := rand.New(rand.NewSource(66))
	for range 3000 {
		game := make([]byte, r.Intn(20))
		r.Read(game)
		rest := slices.DeleteFunc(someResources(r, 8), func(x api.Resource) bool { return x.Usage == "Exec" && x.Number == 0 })
		l := slices.Insert(rest, r.Intn(len(rest)+1), api.Resource{Usage: "Exec", Id: "GLUL", Data: game})
		expectGame(t, "a game among others", expectLaid(t, "a game among others", l...), game)
	}
	for _, i := range []int{0, 1, 255, api.MaxResources - 1} {
		l := numbered(api.MaxResources, "x")
		l[i] = api.Resource{Usage: "Exec", Id: "GLUL", Data: []byte("Glul!")}
		expectGame(t, "a game among MaxResources", expectLaid(t, "a game among MaxResources", l...), []byte("Glul!"))
	}
}

func TestGameIsWhatItIsAlone(t *testing.T) {
	game := []byte("Glul and more")
	b := expectLaid(t, "wrapped", api.Resource{Usage: "Pict", Number: 3, Id: "PNG ", Data: []byte{1}}, api.Resource{Usage: "Exec", Id: "GLUL", Data: game})
	wrapped, _, _ := Game(b)
	alone, _, _ := Game(game)
	if !bytes.Equal(wrapped, alone) {
		t.Errorf("the game %q is %q in a container, %q alone", game, wrapped, alone)
	}
}

// P6.7

func TestNoBeginningIsAContainer(t *testing.T) {
	for _, l := range edgeRows() {
		b, _ := Lay(l...)
		// All of a short one; of a long one each length in steps, and those near its end.
		for n := 0; n < len(b); n += 1 + len(b)/512 {
			refused(t, b, n)
		}
		for n := max(0, len(b)-16); n < len(b); n++ {
			refused(t, b, n)
		}
	}
}

// refused: neither Read nor Game takes the first n bytes of b.
func refused(t *testing.T, b []byte, n int) {
	t.Helper()
	if l, e, _ := Read(b[:n]); e == api.OK || len(l) != 0 {
		t.Fatalf("the first %d of %d bytes are a container", n, len(b))
	}
	if g, e, _ := Game(b[:n]); e == api.OK || len(g) != 0 {
		t.Fatalf("a game is in the first %d of %d bytes", n, len(b))
	}
}
