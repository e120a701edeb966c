package snap

import (
	"bytes"
	"math"
	"math/rand"
	"testing"

	"grotto/api"
)

// expectSqueeze: Squeeze answers want, and neither row is changed.
func expectSqueeze(t *testing.T, what string, was, now, want []byte) {
	t.Helper()
	a, b := roomy(was), roomy(now)
	keptWas, keptNow := bytes.Clone(a[:cap(a)]), bytes.Clone(b[:cap(b)])
	got := Squeeze(a, b)
	if !bytes.Equal(got, want) {
		t.Fatalf("%s: Squeeze = % x, not % x", what, got[:min(len(got), 40)], want[:min(len(want), 40)])
	}
	spread(got, 0xee)
	sameBytes(t, what+": was", a[:cap(a)], keptWas)
	sameBytes(t, what+": now", b[:cap(b)], keptNow)
}

// expectStretch: Stretch answers that, and neither row is changed.
func expectStretch(t *testing.T, what string, was []byte, size int, b, want []byte, e api.Errno) {
	t.Helper()
	a, c := roomy(was), roomy(b)
	keptWas, keptB := bytes.Clone(a[:cap(a)]), bytes.Clone(c[:cap(c)])
	got, f := Stretch(a, size, c)
	if f != e || !bytes.Equal(got, want) {
		t.Fatalf("%s: Stretch(%d bytes, %d, % x) = %d bytes, %d; not %d bytes, %d; the first other one at %d", what, len(was), size, b[:min(len(b), 40)], len(got), f, len(want), e, firstOther(got, want))
	}
	spread(got, 0xee)
	sameBytes(t, what+": was", a[:cap(a)], keptWas)
	sameBytes(t, what+": b", c[:cap(c)], keptB)
}

// expectBoth: now is squeezed as b, which is stretched to now.
func expectBoth(t *testing.T, what string, was, now, b []byte) {
	t.Helper()
	expectSqueeze(t, what, was, now, b)
	expectStretch(t, what, was, len(now), b, now, api.OK)
}

// P17.1

func TestExample(t *testing.T) {
	was, now, b := []byte{1, 2, 3, 4, 5}, []byte{1, 2, 9, 4, 5}, []byte{0x00, 0x01, 0x0a}
	expectBoth(t, "the example", was, now, b)
	expectStretch(t, "the example, too short", was, 2, b, nil, api.ErrLong)
}

func TestSqueeze(t *testing.T) {
	for _, c := range []struct {
		what        string
		was, now, b []byte
	}{
		{"none", nil, nil, nil},
		{"none now", []byte{1, 2, 3}, nil, nil},
		{"none ahead", nil, []byte{1, 2, 3}, []byte{1, 2, 3}},
		{"none ahead, with bytes 0", nil, []byte{0, 1, 0, 0, 2}, []byte{0, 0, 1, 0, 1, 2}},
		{"alike", []byte{1, 2, 3}, []byte{1, 2, 3}, nil},
		{"one bit", []byte{1, 2, 0x83}, []byte{1, 2, 0x03}, []byte{0, 1, 0x80}},
		{"all others", []byte{1, 2, 3}, []byte{2, 3, 1}, []byte{3, 1, 2}},
		{"bytes that are 0 now", []byte{1, 2, 3}, []byte{0, 0, 0}, []byte{1, 2, 3}},
		{"now is shorter", []byte{1, 2, 3, 4}, []byte{1, 7}, []byte{0, 0, 5}},
		{"now is shorter, and alike", []byte{1, 2, 3, 4}, []byte{1, 2}, nil},
		{"now is longer", []byte{1, 2}, []byte{1, 2, 3, 4}, []byte{0, 1, 3, 4}},
		{"now is longer, with the last byte's like", []byte{1, 2}, []byte{1, 3, 2, 2}, []byte{0, 0, 1, 2, 2}},
		{"now is longer by bytes 0", []byte{1, 2}, []byte{3, 2, 0, 0}, []byte{2}},
		{"now is longer by bytes 0 and another one", []byte{1, 2}, []byte{3, 2, 0, 0, 9}, []byte{2, 0, 2, 9}},
		{"runs of one", nil, []byte{0, 1, 0, 1, 0, 1, 0}, []byte{0, 0, 1, 0, 0, 1, 0, 0, 1}},
		{"the greatest bytes", []byte{0, 0xff}, []byte{0xff, 0}, []byte{0xff, 0xff}},
	} {
		expectBoth(t, c.what, c.was, c.now, c.b)
	}
}

func TestSqueezeRuns(t *testing.T) {
	for _, c := range []struct {
		n   int
		run []byte
	}{
		{1, []byte{0, 0}},
		{2, []byte{0, 1}},
		{254, []byte{0, 253}},
		{255, []byte{0, 254}},
		{256, []byte{0, 255}},
		{257, []byte{0, 255, 0, 0}},
		{258, []byte{0, 255, 0, 1}},
		{511, []byte{0, 255, 0, 254}},
		{512, []byte{0, 255, 0, 255}},
		{513, []byte{0, 255, 0, 255, 0, 0}},
		{768, []byte{0, 255, 0, 255, 0, 255}},
		{1000, []byte{0, 255, 0, 255, 0, 255, 0, 231}},
	} {
		zeros := make([]byte, c.n)
		expectBoth(t, "all of it", nil, zeros, nil)
		expectBoth(t, "at the beginning", nil, laid(zeros, "x"), laid(c.run, "x"))
		expectBoth(t, "in the middle", nil, laid("ab", zeros, "xy"), laid("ab", c.run, "xy"))
		expectBoth(t, "at the end", nil, laid("ab", zeros), laid("ab"))
		expectBoth(t, "everywhere", nil, laid(zeros, "a", zeros, "b", zeros), laid(c.run, "a", c.run, "b"))
		// The run lies where both are alike, or partly behind was.
		was := numbered(c.n)
		expectBoth(t, "alike", was, laid(was, "x"), laid(c.run, "x"))
		expectBoth(t, "all alike", was, was, nil)
		expectBoth(t, "alike, then 0", was[:c.n/2], laid(was[:c.n/2], make([]byte, c.n-c.n/2), "x"), laid(c.run, "x"))
	}
}

func TestSqueezeByChance(t *testing.T) {
	r := rand.New(rand.NewSource(171))
	for range 4000 {
		was, now := someRow(r, 12), someRow(r, 12)
		if r.Intn(2) == 0 {
			// Mostly alike.
			now = append(bytes.Clone(was), now...)
			for range r.Intn(4) {
				if len(now) > 0 {
					now[r.Intn(len(now))] ^= byte(r.Intn(256))
				}
			}
		}
		expectBoth(t, "by chance", was, now, squeezed(was, now))
	}
}

// P17.2

func TestStretchSizes(t *testing.T) {
	was := []byte{1, 2, 3, 4, 5, 6, 7}
	for _, c := range []struct {
		what string
		size int
		b    []byte
		want []byte
		e    api.Errno
	}{
		{"nothing to 0", 0, nil, nil, api.OK},
		{"a byte to 0", 0, []byte{1}, nil, api.ErrLong},
		{"a run to 0", 0, []byte{0, 0}, nil, api.ErrLong},
		{"nothing to some", 3, nil, []byte{1, 2, 3}, api.OK},
		{"nothing to all", 7, []byte{}, was, api.OK},
		{"nothing to more", 9, nil, []byte{1, 2, 3, 4, 5, 6, 7, 0, 0}, api.OK},
		{"bytes to the size", 3, []byte{8, 8, 8}, []byte{9, 10, 11}, api.OK},
		{"bytes to one less", 2, []byte{8, 8, 8}, nil, api.ErrLong},
		{"bytes to one more", 4, []byte{8, 8, 8}, []byte{9, 10, 11, 4}, api.OK},
		{"bytes behind was", 9, []byte{8, 0, 6, 8, 8}, []byte{9, 2, 3, 4, 5, 6, 7, 0, 8}, api.ErrLong},
		{"a run to the size", 5, []byte{8, 0, 3}, []byte{9, 2, 3, 4, 5}, api.OK},
		{"a run to one less", 4, []byte{8, 0, 3}, nil, api.ErrLong},
		{"a run to one more", 6, []byte{8, 0, 3}, []byte{9, 2, 3, 4, 5, 6}, api.OK},
		{"a run and a byte to the size", 6, []byte{8, 0, 3, 8}, []byte{9, 2, 3, 4, 5, 14}, api.OK},
		{"a run and a byte to one less", 5, []byte{8, 0, 3, 8}, nil, api.ErrLong},
		{"runs of one, one behind the other", 4, []byte{0, 0, 0, 0, 0, 0, 1}, []byte{1, 2, 3, 5}, api.OK},
		{"runs of one, at the end, to one less", 3, []byte{1, 0, 0, 0, 0, 0, 0}, nil, api.ErrLong},
	} {
		want := c.want
		if c.e != api.OK {
			want = nil
		}
		expectStretch(t, c.what, was, c.size, c.b, want, c.e)
	}
	for _, n := range []int{1, 255, 256, 257, 512, 513} {
		row := laid(make([]byte, n), "x")
		b := squeezed(nil, row)
		expectStretch(t, "a long run to the size", nil, n+1, b, row, api.OK)
		expectStretch(t, "a long run to one less", nil, n, b, nil, api.ErrLong)
		expectStretch(t, "a long run to one more", nil, n+2, b, laid(row, []byte{0}), api.OK)
	}
}

func TestStretchToMaxMem(t *testing.T) {
	full := numbered(1 << 20)
	expectStretch(t, "nothing", full, 1<<20, nil, full, api.OK)
	expectStretch(t, "nothing, of more", append(full, 9), 1<<20, nil, full, api.OK)
	expectStretch(t, "nothing, of none", nil, 1<<20, nil, make([]byte, 1<<20), api.OK)
	expectStretch(t, "bytes alone", nil, 1<<20, full, full, api.OK)
	expectStretch(t, "bytes alone, and one more", nil, 1<<20, append(full, 1), nil, api.ErrLong)
	runs := bytes.Repeat([]byte{0, 255}, 1<<12)
	expectStretch(t, "runs alone", full, 1<<20, runs, full, api.OK)
	expectStretch(t, "runs alone, to one less", full, 1<<20-1, runs, nil, api.ErrLong)
	expectStretch(t, "runs alone, and one more", full, 1<<20, append(runs, 0, 0), nil, api.ErrLong)
	expectStretch(t, "far too many", full, 1<<20, bytes.Repeat([]byte{0, 255}, 1<<16), nil, api.ErrLong)
}

func TestStretchRefused(t *testing.T) {
	was := []byte{1, 2, 3}
	for _, size := range []int{-1, -2, -256, math.MinInt, 1<<20 + 1, 1<<20 + 256, 1 << 31, 1 << 32, math.MaxInt} {
		for _, b := range [][]byte{nil, {1, 2}, {0}, {1, 0}, {1, 2, 3, 4}, {0, 255}} {
			expectStretch(t, "a size that is none", was, size, b, nil, api.ErrArg)
		}
	}
	for _, c := range []struct {
		what string
		size int
		b    []byte
		e    api.Errno
	}{
		{"a 0 alone", 3, []byte{0}, api.ErrShort},
		{"a 0 behind a byte", 3, []byte{5, 0}, api.ErrShort},
		{"a 0 behind a run", 3, []byte{0, 0, 0}, api.ErrShort},
		{"a 0 behind a run and a byte", 9, []byte{0, 3, 1, 0}, api.ErrShort},
		{"a 0 that ends a long row", 1 << 20, laid(bytes.Repeat([]byte{0, 255}, 4095), "abc", []byte{0}), api.ErrShort},
		// Of both the one that is further to the left.
		{"a 0 alone, of no size", 0, []byte{0}, api.ErrShort},
		{"a 0 where the row is full", 2, []byte{1, 2, 0}, api.ErrShort},
		{"a 0 where the row is full by a run", 2, []byte{0, 1, 0}, api.ErrShort},
		{"a byte too many, then a 0", 2, []byte{1, 2, 3, 0}, api.ErrLong},
		{"a run too long, then a 0", 2, []byte{1, 0, 1, 0}, api.ErrLong},
		{"a byte too many at once, then a 0", 0, []byte{1, 0}, api.ErrLong},
		{"a run too many at once, then a 0", 0, []byte{0, 0, 0}, api.ErrLong},
		{"bytes 0 that are one run of one", 1, []byte{0, 0}, api.OK},
	} {
		var want []byte
		if c.e == api.OK {
			want = was[:c.size]
		}
		expectStretch(t, c.what, was, c.size, c.b, want, c.e)
	}
}

func TestStretchByChance(t *testing.T) {
	r := rand.New(rand.NewSource(172))
	var seen [8]int
	for range 20000 {
		was, b := someRow(r, 4), make([]byte, r.Intn(20))
		for i := range b {
			b[i] = byte(someOf(r, 0, 0, 1, 2, 255, r.Intn(256)))
		}
		size := r.Intn(1500)
		if row, e := stretched(nil, 6000, b); e == api.OK && r.Intn(2) == 0 {
			size = max(0, len(bytes.TrimRight(row, "\x00"))+r.Intn(5)-2)
		}
		want, e := stretched(was, size, b)
		seen[e]++
		expectStretch(t, "by chance", was, size, b, want, e)
	}
	if seen[api.OK] < 1000 || seen[api.ErrShort] < 1000 || seen[api.ErrLong] < 1000 {
		t.Errorf("seen: %v", seen)
	}
}
