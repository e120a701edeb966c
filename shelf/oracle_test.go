package shelf

import (
	"bytes"
	"encoding/binary"
	"fmt"
	"maps"
	"math/rand"
	"slices"
	"strings"
	"testing"

	"grotto/api"
)

// top is the greatest word; least and greatest are the ends of all integers.
const (
	top      = 1<<32 - 1
	least    = -1 << 63
	greatest = 1<<63 - 1
)

// modes: all of them, as the chapter's numbers.
func modes() []int { return []int{1, 2, 3, 5} }

// wrongModes: numbers that are no modes.
func wrongModes() []int {
	return []int{0, 4, 6, 7, 8, 9, 10, 16, 255, 257, 1<<32 + 1, 1<<32 + 2, -1, -2, -3, -5, least, least + 1, greatest}
}

// wrongFroms: numbers from which no place is counted.
func wrongFroms() []int {
	return []int{3, 4, 5, 256, 1 << 32, 1<<32 + 1, -1, -2, least, greatest}
}

// wrongNames: what is no name.
func wrongNames() []string {
	return []string{"", strings.Repeat("n", 33), strings.Repeat("\x00", 34), strings.Repeat("\xc3\xa4", 17), strings.Repeat("long", 1000)}
}

// someNames: names of 1 byte and of 32 among them, and such as sort by their bytes alone.
func someNames() []string {
	return []string{"a", "b", "A", "\x00", "\xff", "\xc3\xa4", "a\x00", "ab", "a b/..", strings.Repeat("n", 31), strings.Repeat("n", 32), strings.Repeat("\xff", 32)}
}

// someChars: characters with the edges among them.
func someChars() []uint32 {
	return []uint32{0, 1, 9, 10, 11, 62, 63, 64, 65, 127, 128, 200, 254, 255, 256, 257, 266, 1 << 16, 1<<24 + 10, 1 << 31, top - 1, top}
}

// someOf: one of l.
func someOf[T any](r *rand.Rand, l ...T) T { return l[r.Intn(len(l))] }

// lane is a stream by the words alone: it knows its file by its name.
type lane struct {
	name          string
	onFile        bool
	chars         []uint32 // of a buffer alone
	mode          int
	wide          bool
	place         int
	read, written int
}

// model is a shelf by the words of P15.1 to P15.6 alone.
type model struct {
	most  int
	files map[string]string
	lanes map[int]*lane
	next  int
}

func isNameByWords(name string) bool { return name != "" && len(name) < 33 }

// narrowed: what a stream writes of l.
func narrowed(l []uint32, wide bool) []uint32 {
	is := slices.Clone(l)
	for i, c := range is {
		if !wide && c >= 256 {
			is[i] = '?'
		}
	}
	return is
}

// charsOf: the characters that bytes are.
func charsOf(b string, wide bool) (l []uint32) {
	if wide {
		for ; len(b) >= 4; b = b[4:] {
			l = append(l, binary.BigEndian.Uint32([]byte(b[:4])))
		}
		return l
	}
	for i := range len(b) {
		l = append(l, uint32(b[i]))
	}
	return l
}

// bytesOf: the bytes that characters are.
func bytesOf(l []uint32, wide bool) string {
	var b []byte
	for _, c := range l {
		if wide {
			b = binary.BigEndian.AppendUint32(b, c)
		} else {
			b = append(b, byte(c))
		}
	}
	return string(b)
}

// all: the characters of a stream.
func (m *model) all(l *lane) []uint32 {
	if l.onFile {
		return charsOf(m.files[l.name], l.wide)
	}
	return l.chars
}

func (m *model) total() (n int) {
	for _, b := range m.files {
		n += len(b)
	}
	return n
}

// modesOn: those of the streams on a file.
func (m *model) modesOn(name string) (l []int) {
	for _, x := range m.lanes {
		if x.onFile && x.name == name {
			l = append(l, x.mode)
		}
	}
	return l
}

func (m *model) put(name string, b []byte) api.Errno {
	old, there := m.files[name]
	switch {
	case !isNameByWords(name):
		return api.ErrArg
	case len(m.modesOn(name)) > 0:
		return api.ErrThere
	case !there && len(m.files) == 64:
		return api.ErrMany
	case m.total()-len(old)+len(b) > m.most:
		return api.ErrFull
	}
	m.files[name] = string(b)
	return api.OK
}

func (m *model) delete(name string) bool {
	_, there := m.files[name]
	if !there || len(m.modesOn(name)) > 0 {
		return false
	}
	delete(m.files, name)
	return true
}

// added: one lane more; its number.
func (m *model) added(l *lane) int {
	m.lanes[m.next] = l
	m.next++
	return m.next - 1
}

func (m *model) open(name string, mode int, wide bool) (int, api.Errno) {
	_, there := m.files[name]
	switch {
	case !isNameByWords(name) || !slices.Contains(modes(), mode):
		return 0, api.ErrArg
	case len(m.lanes) == 64:
		return 0, api.ErrMany
	case !there && mode == 2:
		return 0, api.ErrNone
	case !there && len(m.files) == 64:
		return 0, api.ErrMany
	}
	for _, other := range m.modesOn(name) {
		if other != 2 || mode != 2 {
			return 0, api.ErrThere
		}
	}
	if !there || mode == 1 {
		m.files[name] = ""
	}
	l := &lane{name: name, onFile: true, mode: mode, wide: wide}
	if mode == 5 {
		l.place = len(m.all(l))
	}
	return m.added(l), api.OK
}

func (m *model) buffer(chars []uint32, mode int, wide bool) (int, api.Errno) {
	switch {
	case mode != 1 && mode != 2 && mode != 3 || len(chars) > 4096:
		return 0, api.ErrArg
	case len(m.lanes) == 64:
		return 0, api.ErrMany
	}
	return m.added(&lane{chars: narrowed(chars, wide), mode: mode, wide: wide}), api.OK
}

func (m *model) write(stream int, chars []uint32) api.Errno {
	l := m.lanes[stream]
	switch {
	case l == nil:
		return api.ErrNone
	case l.mode == 2:
		return api.ErrArg
	}
	was, old := *l, m.files[l.name]
	for _, c := range narrowed(chars, l.wide) {
		all := m.all(l)
		if l.place < len(all) {
			all[l.place] = c
			l.place++
		} else if l.onFile {
			all = append(all, c)
			l.place++
		}
		l.written++
		if l.onFile {
			b := bytesOf(all, l.wide)
			// What lies behind the last character stays, where no new one has come.
			if tail := m.files[l.name]; len(tail) > len(b) {
				b += tail[len(b):]
			}
			m.files[l.name] = b
		}
	}
	if l.onFile && m.total() > m.most {
		*l, m.files[l.name] = was, old
		return api.ErrFull
	}
	return api.OK
}

// reader: the stream of that number, which reads.
func (m *model) reader(stream int) (*lane, api.Errno) {
	l := m.lanes[stream]
	switch {
	case l == nil:
		return nil, api.ErrNone
	case l.mode == 1 || l.mode == 5:
		return nil, api.ErrArg
	}
	return l, api.OK
}

func (m *model) read(stream int) (uint32, bool, api.Errno) {
	l, e := m.reader(stream)
	if e != api.OK || l.place == len(m.all(l)) {
		return 0, false, e
	}
	l.place++
	l.read++
	return m.all(l)[l.place-1], true, api.OK
}

func (m *model) line(stream, most int) ([]uint32, api.Errno) {
	l, e := m.reader(stream)
	if e != api.OK {
		return nil, e
	}
	rest := m.all(l)[l.place:]
	if at := slices.Index(rest, 10); at >= 0 {
		rest = rest[:at+1]
	}
	if most < len(rest) {
		rest = rest[:max(most, 0)]
	}
	l.place += len(rest)
	l.read += len(rest)
	return slices.Clone(rest), api.OK
}

func (m *model) seek(stream, place, from int) api.Errno {
	l := m.lanes[stream]
	if l == nil {
		return api.ErrNone
	}
	size := len(m.all(l))
	base := map[int]int{0: 0, 1: l.place, 2: size}
	at, ok := base[from]
	switch {
	case !ok:
		return api.ErrArg
	case place > 1<<40:
		l.place = size
	case place < -1<<40:
		l.place = 0
	default:
		l.place = min(size, max(0, at+place))
	}
	return api.OK
}

func (m *model) close(stream int) (read, written uint32, chars []uint32, e api.Errno) {
	l := m.lanes[stream]
	if l == nil {
		return 0, 0, nil, api.ErrNone
	}
	delete(m.lanes, stream)
	return uint32(l.read), uint32(l.written), l.chars, api.OK
}

// ofFile is what is told of one name, ofStream what is told of one number.
type ofFile struct {
	name  string
	bytes string
	there bool
}

type ofStream struct {
	number, place, size int
	e                   api.Errno
}

// told is all that a shelf tells that changes nothing.
type told struct {
	names   []string
	total   int
	streams []int
	files   []ofFile
	each    []ofStream
}

// numbers: those of which it is asked: all that were given, and some that were not.
func numbers(next int) []int {
	l := []int{least, -2, -1, 1 << 32, 1<<32 + 1, greatest}
	for number := range next + 2 {
		l = append(l, number)
	}
	return l
}

// asked: the names of which it is asked.
func asked(more []string) []string {
	return slices.Concat(someNames(), wrongNames(), more)
}

// tell: all that s tells of these names, with that the next number.
func tell(s *Shelf, next int, more []string) told {
	all := told{names: s.Names(), total: s.Total(), streams: s.Streams()}
	for _, name := range asked(more) {
		b, ok := s.Get(name)
		all.files = append(all.files, ofFile{name, string(b), ok})
	}
	for _, number := range numbers(next) {
		o := ofStream{number: number}
		o.place, o.size, o.e = s.Tell(number)
		all.each = append(all.each, o)
	}
	return all
}

// tell: all that m tells, by the words.
func (m *model) tell() told {
	all := told{names: slices.Sorted(maps.Keys(m.files)), total: m.total(), streams: slices.Sorted(maps.Keys(m.lanes))}
	for _, name := range asked(all.names) {
		b, ok := m.files[name]
		all.files = append(all.files, ofFile{name, b, ok})
	}
	for _, number := range numbers(m.next) {
		o := ofStream{number: number, e: api.ErrNone}
		if l := m.lanes[number]; l != nil {
			o.place, o.size, o.e = l.place, len(m.all(l)), api.OK
		}
		all.each = append(all.each, o)
	}
	return all
}

// expectSame: two tell the same.
func expectSame(t *testing.T, what string, is, want told) {
	t.Helper()
	if !slices.Equal(is.names, want.names) || is.total != want.total || !slices.Equal(is.streams, want.streams) {
		t.Fatalf("%s: %q, %d bytes, streams %v; not %q, %d, %v", what, is.names, is.total, is.streams, want.names, want.total, want.streams)
	}
	for i := range want.files {
		if is.files[i] != want.files[i] {
			is, want := is.files[i], want.files[i]
			t.Fatalf("%s: the file %q is %.100q, %t; not %.100q, %t", what, is.name, is.bytes, is.there, want.bytes, want.there)
		}
	}
	for i := range want.each {
		if is.each[i] != want.each[i] {
			t.Fatalf("%s: %+v, not %+v", what, is.each[i], want.each[i])
		}
	}
}

// both is a shelf and the same by the words; each call is made on both of them.
type both struct {
	t *testing.T
	s *Shelf
	m *model
}

// begin: a shelf without files.
func begin(t *testing.T, most int) *both {
	t.Helper()
	s, e := New(most)
	if s == nil || e != api.OK {
		t.Fatalf("New(%d) = %v, %d", most, s, e)
	}
	b := &both{t, s, &model{most: most, files: map[string]string{}, lanes: map[int]*lane{}, next: 1}}
	b.expectModel("new")
	return b
}

// expectModel: the shelf is as the words say.
func (b *both) expectModel(what string) {
	b.t.Helper()
	want := b.m.tell()
	expectSame(b.t, what, tell(b.s, b.m.next, want.names), want)
}

func (b *both) put(name string, data []byte) api.Errno {
	b.t.Helper()
	what := fmt.Sprintf("Put(%q, %d bytes)", name, len(data))
	handed := bytes.Clone(data)
	f := b.m.put(name, data)
	e := b.s.Put(name, handed)
	if e != f || !bytes.Equal(handed, data) {
		b.t.Fatalf("%s = %d, not %d", what, e, f)
	}
	b.expectModel(what)
	return e
}

func (b *both) delete(name string) bool {
	b.t.Helper()
	want := b.m.delete(name)
	if is := b.s.Delete(name); is != want {
		b.t.Fatalf("Delete(%q) = %t", name, is)
	}
	b.expectModel(fmt.Sprintf("Delete(%q)", name))
	return want
}

func (b *both) open(name string, mode int, wide bool) (int, api.Errno) {
	b.t.Helper()
	what := fmt.Sprintf("Open(%q, %d, %t)", name, mode, wide)
	want, f := b.m.open(name, mode, wide)
	n, e := b.s.Open(name, mode, wide)
	if n != want || e != f {
		b.t.Fatalf("%s = %d, %d; not %d, %d", what, n, e, want, f)
	}
	b.expectModel(what)
	return n, e
}

func (b *both) buffer(l []uint32, mode int, wide bool) (int, api.Errno) {
	b.t.Helper()
	what := fmt.Sprintf("Buffer(%d characters, %d, %t)", len(l), mode, wide)
	handed := slices.Clone(l)
	want, f := b.m.buffer(l, mode, wide)
	n, e := b.s.Buffer(handed, mode, wide)
	if n != want || e != f || !slices.Equal(handed, l) {
		b.t.Fatalf("%s = %d, %d; not %d, %d", what, n, e, want, f)
	}
	b.expectModel(what)
	return n, e
}

func (b *both) write(stream int, l ...uint32) api.Errno {
	b.t.Helper()
	what := fmt.Sprintf("Write(%d, %d characters)", stream, len(l))
	handed := slices.Clone(l)
	f := b.m.write(stream, l)
	e := b.s.Write(stream, handed...)
	if e != f || !slices.Equal(handed, l) {
		b.t.Fatalf("%s = %d, not %d", what, e, f)
	}
	b.expectModel(what)
	return e
}

func (b *both) read(stream int) (uint32, bool, api.Errno) {
	b.t.Helper()
	want, there, f := b.m.read(stream)
	c, ok, e := b.s.Read(stream)
	if c != want || ok != there || e != f {
		b.t.Fatalf("Read(%d) = %d, %t, %d; not %d, %t, %d", stream, c, ok, e, want, there, f)
	}
	b.expectModel(fmt.Sprintf("Read(%d)", stream))
	return c, ok, e
}

func (b *both) line(stream, most int) ([]uint32, api.Errno) {
	b.t.Helper()
	want, f := b.m.line(stream, most)
	l, e := b.s.Line(stream, most)
	if !slices.Equal(l, want) || e != f {
		b.t.Fatalf("Line(%d, %d) = %v, %d; not %v, %d", stream, most, l, e, want, f)
	}
	b.expectModel(fmt.Sprintf("Line(%d, %d)", stream, most))
	return l, e
}

func (b *both) seek(stream, place, from int) api.Errno {
	b.t.Helper()
	f := b.m.seek(stream, place, from)
	e := b.s.Seek(stream, place, from)
	if e != f {
		b.t.Fatalf("Seek(%d, %d, %d) = %d, not %d", stream, place, from, e, f)
	}
	b.expectModel(fmt.Sprintf("Seek(%d, %d, %d)", stream, place, from))
	return e
}

func (b *both) close(stream int) api.Errno {
	b.t.Helper()
	wantRead, wantWritten, want, f := b.m.close(stream)
	read, written, l, e := b.s.Close(stream)
	if read != wantRead || written != wantWritten || !slices.Equal(l, want) || e != f {
		b.t.Fatalf("Close(%d) = %d, %d, %v, %d; not %d, %d, %v, %d", stream, read, written, l, e, wantRead, wantWritten, want, f)
	}
	b.expectModel(fmt.Sprintf("Close(%d)", stream))
	return e
}

// laid: the file has these bytes.
func (b *both) laid(name, data string) {
	b.t.Helper()
	if e := b.put(name, []byte(data)); e != api.OK {
		b.t.Fatalf("Put(%q, %q) = %d", name, data, e)
	}
}

// notLaid: Put of n bytes answers that error.
func (b *both) notLaid(name string, n int, want api.Errno) {
	b.t.Helper()
	if e := b.put(name, make([]byte, n)); e != want {
		b.t.Fatalf("Put(%q, %d bytes) = %d, not %d", name, n, e, want)
	}
}

// deleted: Delete answers that.
func (b *both) deleted(name string, want bool) {
	b.t.Helper()
	if b.delete(name) != want {
		b.t.Fatalf("Delete(%q) = %t", name, !want)
	}
}

// has: the file is there, with these bytes.
func (b *both) has(name, want string) {
	b.t.Helper()
	if is, ok := b.s.Get(name); string(is) != want || !ok {
		b.t.Fatalf("Get(%q) = %q, %t; not %q", name, is, ok, want)
	}
}

// opened: Open answers that number.
func (b *both) opened(name string, mode int, wide bool, want int) {
	b.t.Helper()
	if n, e := b.open(name, mode, wide); n != want || e != api.OK {
		b.t.Fatalf("Open(%q, %d, %t) = %d, %d; not %d", name, mode, wide, n, e, want)
	}
}

// notOpened: Open answers that error.
func (b *both) notOpened(name string, mode int, want api.Errno) {
	b.t.Helper()
	for _, wide := range []bool{false, true} {
		if n, e := b.open(name, mode, wide); n != 0 || e != want {
			b.t.Fatalf("Open(%q, %d, %t) = %d, %d; not the error %d", name, mode, wide, n, e, want)
		}
	}
}

// buffered: Buffer answers that number.
func (b *both) buffered(l []uint32, mode int, wide bool, want int) {
	b.t.Helper()
	if n, e := b.buffer(l, mode, wide); n != want || e != api.OK {
		b.t.Fatalf("Buffer(%d characters, %d, %t) = %d, %d; not %d", len(l), mode, wide, n, e, want)
	}
}

// notBuffered: Buffer of n characters answers that error.
func (b *both) notBuffered(n, mode int, want api.Errno) {
	b.t.Helper()
	for _, wide := range []bool{false, true} {
		if number, e := b.buffer(make([]uint32, n), mode, wide); number != 0 || e != want {
			b.t.Fatalf("Buffer(%d characters, %d, %t) = %d, %d; not the error %d", n, mode, wide, number, e, want)
		}
	}
}

// wrote: Write answers OK.
func (b *both) wrote(stream int, l ...uint32) {
	b.t.Helper()
	if e := b.write(stream, l...); e != api.OK {
		b.t.Fatalf("Write(%d, %v) = %d", stream, l, e)
	}
}

// notWritten: Write answers that error.
func (b *both) notWritten(stream int, want api.Errno, l ...uint32) {
	b.t.Helper()
	if e := b.write(stream, l...); e != want {
		b.t.Fatalf("Write(%d, %v) = %d, not %d", stream, l, e, want)
	}
}

// reads: Read answers these, one by one.
func (b *both) reads(stream int, want ...uint32) {
	b.t.Helper()
	for _, w := range want {
		if c, ok, e := b.read(stream); c != w || !ok || e != api.OK {
			b.t.Fatalf("Read(%d) = %d, %t, %d; not %d", stream, c, ok, e, w)
		}
	}
}

// readsNone: Read answers that there is none.
func (b *both) readsNone(stream int) {
	b.t.Helper()
	if c, ok, e := b.read(stream); c != 0 || ok || e != api.OK {
		b.t.Fatalf("Read(%d) = %d, %t, %d", stream, c, ok, e)
	}
}

// notRead: Read and Line answer that error.
func (b *both) notRead(stream int, want api.Errno) {
	b.t.Helper()
	if c, ok, e := b.read(stream); c != 0 || ok || e != want {
		b.t.Fatalf("Read(%d) = %d, %t, %d; not the error %d", stream, c, ok, e, want)
	}
	for _, most := range []int{least, -1, 0, 1, 9, greatest} {
		if l, e := b.line(stream, most); len(l) != 0 || e != want {
			b.t.Fatalf("Line(%d, %d) = %v, %d; not the error %d", stream, most, l, e, want)
		}
	}
}

// lines: Line answers these.
func (b *both) lines(stream, most int, want ...uint32) {
	b.t.Helper()
	if l, e := b.line(stream, most); !slices.Equal(l, want) || e != api.OK {
		b.t.Fatalf("Line(%d, %d) = %v, %d; not %v", stream, most, l, e, want)
	}
}

// moved: Seek answers OK, and leads there.
func (b *both) moved(stream, place, from, want int) {
	b.t.Helper()
	if e := b.seek(stream, place, from); e != api.OK {
		b.t.Fatalf("Seek(%d, %d, %d) = %d", stream, place, from, e)
	}
	if p, _, e := b.s.Tell(stream); p != want || e != api.OK {
		b.t.Fatalf("Seek(%d, %d, %d) leads to %d, not to %d", stream, place, from, p, want)
	}
}

// stands: Tell answers these.
func (b *both) stands(stream, place, size int) {
	b.t.Helper()
	if p, n, e := b.s.Tell(stream); p != place || n != size || e != api.OK {
		b.t.Fatalf("Tell(%d) = %d, %d, %d; not %d, %d", stream, p, n, e, place, size)
	}
}

// closed: Close answers these.
func (b *both) closed(stream int, read, written uint32, want ...uint32) {
	b.t.Helper()
	l := b.m.lanes[stream]
	if l == nil || uint32(l.read) != read || uint32(l.written) != written || !slices.Equal(l.chars, want) {
		b.t.Fatalf("by the words Close(%d) is not %d, %d, %v: %+v", stream, read, written, want, l)
	}
	if e := b.close(stream); e != api.OK {
		b.t.Fatalf("Close(%d) = %d", stream, e)
	}
}

// By chance

func someText(r *rand.Rand, n int) []uint32 {
	l := make([]uint32, n)
	for i := range l {
		l[i] = someOf(r, someChars()...)
	}
	return l
}

// someStream: the number of one that is open mostly, of all else sometimes.
func (b *both) someStream(r *rand.Rand) int {
	if l := b.s.Streams(); len(l) > 0 && r.Intn(12) > 0 {
		return someOf(r, l...)
	}
	return someOf(r, numbers(b.m.next)...)
}

func someName(r *rand.Rand) string {
	if r.Intn(20) == 0 {
		return someOf(r, wrongNames()...)
	}
	return someOf(r, someNames()[:6]...)
}

func someMode(r *rand.Rand) int {
	if r.Intn(15) == 0 {
		return someOf(r, wrongModes()...)
	}
	return someOf(r, modes()...)
}

// someOpen: a stream by chance, on a file or on a buffer.
func (b *both) someOpen(r *rand.Rand) (int, api.Errno) {
	if r.Intn(3) == 0 {
		return b.buffer(someText(r, r.Intn(9)), someMode(r), r.Intn(2) == 0)
	}
	return b.open(someName(r), someMode(r), r.Intn(2) == 0)
}

// someCall: a call by chance, on both.
func (b *both) someCall(r *rand.Rand) {
	b.t.Helper()
	switch r.Intn(16) {
	case 0, 1:
		data := make([]byte, r.Intn(12))
		r.Read(data)
		b.put(someName(r), data)
	case 2:
		b.delete(someName(r))
	case 3, 4, 5:
		b.someOpen(r)
	case 6, 7, 8, 9:
		b.write(b.someStream(r), someText(r, r.Intn(5))...)
	case 10, 11:
		b.read(b.someStream(r))
	case 12:
		b.line(b.someStream(r), someOf(r, least, -1, 0, 1, 2, 3, 9, greatest))
	case 13, 14:
		place := someOf(r, r.Intn(7)-3, r.Intn(7)-3, r.Intn(40)-20, least, least+1, -1<<32, 1<<32, greatest-1, greatest)
		from := someOf(r, 0, 1, 2, 0, 1, 2, someOf(r, wrongFroms()...))
		b.seek(b.someStream(r), place, from)
	case 15:
		b.close(b.someStream(r))
	}
}

// someShelf: a shelf on which that many calls were made.
func someShelf(t *testing.T, r *rand.Rand, calls int) *both {
	t.Helper()
	b := begin(t, someOf(r, 0, 1, 7, 16, 40, 100, 1000, api.MaxShelf))
	for range calls {
		b.someCall(r)
	}
	return b
}
