package code

import (
	"bytes"
	"math/rand"
	"slices"
	"strconv"
	"strings"
	"sync"
	"testing"

	"grotto/api"
)

// top32 is the greatest word.
const top32 = 1<<32 - 1

// chapter is the list of P11.1, word by word.
const chapter = `
00 nop; 10 add LLS; 11 sub LLS; 12 mul LLS; 13 div LLS; 14 mod LLS; 15 neg LS; 18 bitand LLS; 19 bitor LLS;
1a bitxor LLS; 1b bitnot LS; 1c shiftl LLS; 1d sshiftr LLS; 1e ushiftr LLS; 20 jump L; 22 jz LL; 23 jnz LL;
24 jeq LLL; 25 jne LLL; 26 jlt LLL; 27 jge LLL; 28 jgt LLL; 29 jle LLL; 2a jltu LLL; 2b jgeu LLL; 2c jgtu LLL;
2d jleu LLL; 30 call LLS; 31 return L; 32 catch SL; 33 throw LL; 34 tailcall LL; 40 copy LS; 41 copys LS;
42 copyb LS; 44 sexs LS; 45 sexb LS; 48 aload LLS; 49 aloads LLS; 4a aloadb LLS; 4b aloadbit LLS;
4c astore LLL; 4d astores LLL; 4e astoreb LLL; 4f astorebit LLL; 50 stkcount S; 51 stkpeek LS; 52 stkswap;
53 stkroll LL; 54 stkcopy L; 70 streamchar L; 71 streamnum L; 72 streamstr L; 73 streamunichar L;
100 gestalt LLS; 101 debugtrap L; 102 getmemsize S; 103 setmemsize LS; 104 jumpabs L; 110 random LS;
111 setrandom L; 120 quit; 121 verify S; 122 restart; 123 save LS; 124 restore LS; 125 saveundo S;
126 restoreundo S; 127 protect LL; 128 hasundo S; 129 discardundo; 130 glk LLS; 140 getstringtbl S;
141 setstringtbl L; 148 getiosys SS; 149 setiosys LL; 150 linearsearch LLLLLLLS; 151 binarysearch LLLLLLLS;
152 linkedsearch LLLLLLS; 160 callf LS; 161 callfi LLS; 162 callfii LLLS; 163 callfiii LLLLS; 170 mzero LL;
171 mcopy LLL; 178 malloc LS; 179 mfree L; 180 accelfunc LL; 181 accelparam LL; 190 numtof LS; 191 ftonumz LS;
192 ftonumn LS; 198 ceil LS; 199 floor LS; 1a0 fadd LLS; 1a1 fsub LLS; 1a2 fmul LLS; 1a3 fdiv LLS;
1a4 fmod LLSS; 1a8 sqrt LS; 1c0 jfeq LLLL; 1c1 jfne LLLL; 1c2 jflt LLL; 1c3 jfle LLL; 1c4 jfgt LLL;
1c5 jfge LLL; 1c8 jisnan LL; 1c9 jisinf LL; 200 numtod LSS; 201 dtonumz LLS; 202 dtonumn LLS; 203 ftod LSS;
204 dtof LLS; 208 dceil LLSS; 209 dfloor LLSS; 210 dadd LLLLSS; 211 dsub LLLLSS; 212 dmul LLLLSS;
213 ddiv LLLLSS; 214 dmodr LLLLSS; 215 dmodq LLLLSS; 218 dsqrt LLSS; 230 jdeq LLLLLLL; 231 jdne LLLLLLL;
232 jdlt LLLLL; 233 jdle LLLLL; 234 jdgt LLLLL; 235 jdge LLLLL; 238 jdisnan LLL; 239 jdisinf LLL
`

// listed is one instruction of that list.
type listed struct {
	op      uint32
	name    string
	letters string
}

// list: the instructions of the chapter.
var list = sync.OnceValue(func() (l []listed) {
	for _, s := range strings.Split(chapter, ";") {
		f := strings.Fields(s)
		op, err := strconv.ParseUint(f[0], 16, 32)
		if err != nil {
			panic(err)
		}
		l = append(l, listed{uint32(op), f[1], strings.Join(f[2:], "")})
	}
	return l
})

// byNumber: the same, by their numbers.
var byNumber = sync.OnceValue(func() map[uint32]listed {
	m := map[uint32]listed{}
	for _, x := range list() {
		m[x.op] = x
	}
	return m
})

// bound is a mode of P11.2: how many bytes it has, and the least and the greatest integer that it can tell.
type bound struct {
	bytes       int
	least, most int64
}

// bounds: the modes that there are.
var bounds = sync.OnceValue(func() map[int]bound {
	m := map[int]bound{
		0: {}, 8: {},
		1: {1, -128, 127},
		2: {2, -32768, 32767},
		3: {4, -2147483648, 2147483647},
	}
	for _, first := range []int{5, 9, 13} {
		m[first] = bound{1, 0, 255}
		m[first+1] = bound{2, 0, 65535}
		m[first+2] = bound{4, 0, 4294967295}
	}
	return m
})

// may: may an operand with that letter have that mode?
func may(letter byte, mode int) bool {
	_, there := bounds()[mode]
	return there && (letter == 'L' || mode != 1 && mode != 2 && mode != 3)
}

// modesOf: the modes that an operand with that letter may have.
func modesOf(letter byte) (l []int) {
	for mode := range 16 {
		if may(letter, mode) {
			l = append(l, mode)
		}
	}
	return l
}

// say: the lowest n bytes of x, the highest first.
func say(x int64, n int) (b []byte) {
	for i := n - 1; i >= 0; i-- {
		b = append(b, byte(x>>(8*i)))
	}
	return b
}

// laid: an instruction with its number in so many bytes, spare behind the last mode, by the words of P11.2.
func laid(op uint32, size int, spare byte, modes []int, values []int64) []byte {
	mark := map[int]int64{1: 0, 2: 0x8000, 4: 0xc0000000}
	b := say(int64(op)+mark[size], size)
	for i, mode := range modes {
		if i%2 == 0 {
			b = append(b, byte(mode)+spare<<4)
		} else {
			b[len(b)-1] = b[len(b)-1]&15 + byte(mode)<<4
		}
	}
	for i, mode := range modes {
		b = append(b, say(values[i], bounds()[mode].bytes)...)
	}
	return b
}

// instrOf: the instruction that has these operands.
func instrOf(op uint32, modes []int, values []int64) api.Instr {
	in := api.Instr{Op: op}
	for i, mode := range modes {
		in.Args = append(in.Args, api.Operand{Mode: mode, Value: uint32(values[i])})
	}
	return in
}

// readInt: the integer that b's first bytes tell in that mode; false, if they end.
func readInt(b []byte, m bound) (int64, bool) {
	if len(b) < m.bytes {
		return 0, false
	}
	var x int64
	for _, c := range b[:m.bytes] {
		x = x*256 + int64(c)
	}
	if x > m.most {
		x -= 1 << (8 * m.bytes)
	}
	return x, true
}

// readNumber: the number with which b begins, and how many bytes it has; false, if they end.
func readNumber(b []byte) (x int64, n int, ok bool) {
	if len(b) == 0 {
		return 0, 0, false
	}
	n = []int{1, 1, 2, 4}[b[0]>>6]
	if len(b) < n {
		return 0, 0, false
	}
	for i, c := range b[:n] {
		if i == 0 {
			c &= []byte{0x7f, 0x7f, 0x3f, 0x3f}[b[0]>>6]
		}
		x = x*256 + int64(c)
	}
	return x, n, true
}

// decoded: what Decode must tell, by the words of P11.2 and P11.3.
func decoded(b []byte, at int) (in api.Instr, n int, e api.Errno) {
	if at < 0 {
		return api.Instr{}, 0, api.ErrArg
	}
	rest := b[min(at, len(b)):]
	op, n, ok := readNumber(rest)
	if !ok {
		return api.Instr{}, 0, api.FatalRead
	}
	x, ok := byNumber()[uint32(op)]
	if !ok {
		return api.Instr{}, 0, api.FatalOpcode
	}
	var modes []int
	for i := range x.letters {
		if n+i/2 >= len(rest) {
			return api.Instr{}, 0, api.FatalRead
		}
		modes = append(modes, []int{int(rest[n+i/2] % 16), int(rest[n+i/2] / 16)}[i%2])
	}
	n += len(x.letters)/2 + len(x.letters)%2
	for i, mode := range modes {
		if !may(x.letters[i], mode) {
			return api.Instr{}, 0, api.FatalMode
		}
	}
	in.Op = x.op
	for _, mode := range modes {
		v, ok := readInt(rest[n:], bounds()[mode])
		if !ok {
			return api.Instr{}, 0, api.FatalRead
		}
		in.Args = append(in.Args, api.Operand{Mode: mode, Value: uint32(v)})
		n += bounds()[mode].bytes
	}
	return in, n, api.OK
}

// canTell: is that a Value that the mode can tell?
func canTell(mode int, v uint32) bool {
	m := bounds()[mode]
	return int64(v) >= m.least && int64(v) <= m.most || int64(int32(v)) >= m.least && int64(int32(v)) <= m.most
}

// encoded: what Encode must lay, by the words of P11.4; false, if it must refuse.
func encoded(in api.Instr) ([]byte, bool) {
	x, ok := byNumber()[in.Op]
	if !ok || len(x.letters) != len(in.Args) {
		return nil, false
	}
	var modes []int
	var values []int64
	for i, a := range in.Args {
		if !may(x.letters[i], a.Mode) || !canTell(a.Mode, a.Value) {
			return nil, false
		}
		modes = append(modes, a.Mode)
		values = append(values, int64(a.Value))
	}
	size := 1
	if in.Op > 0x7f {
		size = 2
	}
	return laid(in.Op, size, 0, modes, values), true
}

// sameInstr: nil and empty operands are alike.
func sameInstr(a, b api.Instr) bool {
	return a.Op == b.Op && slices.Equal(a.Args, b.Args)
}

func expectDecode(t *testing.T, b []byte, at int, want api.Instr, wantN int, wantE api.Errno) {
	t.Helper()
	// The spare room is not looked at.
	given := append(slices.Clone(b), 0x10, 0x11, 0x05)[:len(b)]
	in, n, e := Decode(given, at)
	if !sameInstr(in, want) || n != wantN || e != wantE {
		t.Errorf("Decode(%x, %d): %x, %d, %d; want %x, %d, %d", b, at, in, n, e, want, wantN, wantE)
	}
}

// expectDecoded: Decode tells what the model tells.
func expectDecoded(t *testing.T, b []byte, at int) {
	t.Helper()
	in, n, e := decoded(b, at)
	expectDecode(t, b, at, in, n, e)
}

func expectRefused(t *testing.T, b []byte, at int, want api.Errno) {
	t.Helper()
	expectDecode(t, b, at, api.Instr{}, 0, want)
}

func expectEncode(t *testing.T, in api.Instr, want []byte) {
	t.Helper()
	if b, e := Encode(in); !bytes.Equal(b, want) || e != api.OK {
		t.Errorf("Encode(%x): %x, %d; want %x", in, b, e, want)
	}
}

func expectNotLaid(t *testing.T, in api.Instr) {
	t.Helper()
	if b, e := Encode(in); len(b) != 0 || e != api.ErrArg {
		t.Errorf("Encode(%x): %x, %d", in, b, e)
	}
}

// expectEncoded: Encode lays what the model lays.
func expectEncoded(t *testing.T, in api.Instr) bool {
	t.Helper()
	b, ok := encoded(in)
	if ok {
		expectEncode(t, in, b)
	} else {
		expectNotLaid(t, in)
	}
	return ok
}

func someOf[T any](r *rand.Rand, l ...T) T {
	return l[r.Intn(len(l))]
}

// someValue: an integer that the mode can tell, the edges among them.
func someValue(r *rand.Rand, mode int) int64 {
	m := bounds()[mode]
	return someOf(r, m.least, m.most, m.least+r.Int63n(m.most-m.least+1))
}

// someInstr: an instruction by chance: its list's row, modes and values.
func someInstr(r *rand.Rand, l []listed) (x listed, modes []int, values []int64) {
	x = someOf(r, l...)
	for i := range x.letters {
		mode := someOf(r, modesOf(x.letters[i])...)
		modes = append(modes, mode)
		values = append(values, someValue(r, mode))
	}
	return x, modes, values
}

// sizes: in how many bytes a number may be laid.
func sizes(op uint32) []int {
	if op < 0x80 {
		return []int{1, 2, 4}
	}
	return []int{2, 4}
}
