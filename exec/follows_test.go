package exec

import (
	"bytes"
	"math/rand"
	"slices"
	"testing"

	"grotto/api"
	"grotto/glk"
	"grotto/text"
)

// P19.7

// sameMachines: two machines, and their worlds, are alike.
func sameMachines(t *testing.T, a, b *Machine, wa, wb *glk.World) {
	t.Helper()
	sameState(t, stateOf(a), stateOf(b))
	ta, ma, ra := a.Output()
	tb, mb, rb := b.Output()
	if a.PC() != b.PC() || ta != tb || ma != mb || ra != rb || a.Undos() != b.Undos() || a.chance != b.chance {
		t.Error("another machine")
	}
	if s := worldsDiffer(wa, wb); s != "" {
		t.Error("other", s)
	}
}

func TestTheSameAgain(t *testing.T) {
	d := drawing(t, rand.New(rand.NewSource(1907)))
	long := 0
	for i := range 300 {
		d.wild = []int{30, 200, 1000}[i%3]
		g := d.game()
		wa, wb, wc := world(t, inputs()...), world(t, inputs()...), world(t, inputs()...)
		a, e := New(g, wa)
		if e != api.OK {
			continue
		}
		b, c := begun(t, slices.Clone(g), wb), begun(t, g, wc)
		fuel := 1 + d.Intn(400)
		na, ea := a.Run(fuel)
		nb, eb := b.Run(fuel)
		if na != nb || ea != eb {
			t.Fatal(na, ea, nb, eb)
		}
		sameMachines(t, a, b, wa, wb)
		// In two runs, or more.
		nc, ec := 0, api.OK
		for left := fuel; left > 0; {
			part := 1 + d.Intn(left)
			left -= part
			n, e := c.Run(part)
			nc, ec = nc+n, e
		}
		if nc != na || ec != ea {
			t.Fatal(nc, ec, na, ea)
		}
		sameMachines(t, a, c, wa, wc)
		if na > 100 {
			long++
		}
		if t.Failed() {
			t.Fatal(i)
		}
	}
	if long < 50 {
		t.Error(long)
	}
}

func TestRunIsSteps(t *testing.T) {
	d := drawing(t, rand.New(rand.NewSource(19071)))
	for range 100 {
		d.wild = 200
		g := d.game()
		wa, wb := world(t, inputs()...), world(t, inputs()...)
		a, e := New(g, wa)
		if e != api.OK {
			continue
		}
		b := begun(t, g, wb)
		n, e := a.Run(200)
		for i := range n {
			if e := b.Step(); e != api.OK {
				t.Fatal(i, e)
			}
		}
		if e != api.OK {
			if x := b.Step(); x != e {
				t.Fatal(x, e)
			}
		}
		sameMachines(t, a, b, wa, wb)
	}
}

// P19.8

func TestBoundsByChance(t *testing.T) {
	d := drawing(t, rand.New(rand.NewSource(1908)))
	grown, full := 0, 0
	for i := range 250 {
		d.wild = []int{20, 200, 1000}[i%3]
		g := d.game()
		w := world(t, inputs()...)
		m, e := New(g, w)
		if e != api.OK {
			continue
		}
		size := m.Memory().Header().StackSize
		for range 300 {
			e := m.Step()
			b := m.Memory().Bytes()
			if !bytes.Equal(b[:drawnRam], g[:drawnRam]) {
				t.Fatal("what never changes has changed")
			}
			if n := m.Memory().Size(); n > api.MaxMem || n < drawnEnd || int(n) != len(b) {
				t.Fatal(n)
			} else if n > drawnEnd {
				grown++
			}
			if m.Stack().Top() > size || m.Undos() > api.KeptUndo {
				t.Fatal(m.Stack().Top(), m.Undos())
			}
			if e == api.FatalOver {
				full++
			}
			if e != api.OK {
				break
			}
		}
	}
	if grown < 100 || full < 3 {
		t.Error(grown, full)
	}
}

func TestMemoryGrowsNoFurther(t *testing.T) {
	loop := uint32(len(lay(t, in("malloc", c(0x10000), local(0)))) + len(lay(t, in("jnz", local(0), c(0x12345678)))))
	l := laid{start: fun(t, api.FuncLocals, locals(4), in("malloc", c(0x10000), local(0)), in("jnz", local(0), c(2-loop)), in("getmemsize", sp), in("quit"))}
	m := begun(t, gameBytes(t, 256, l), world(t))
	if _, e := m.Run(1000); e != api.ErrOver {
		t.Error(e)
	}
	if n := m.Memory().Size(); n > api.MaxMem || n < api.MaxMem-0x10000 {
		t.Error(n)
	}
}

// P19.9

// now: an instruction is done here and now, though memory does not hold it.
func (m *Machine) now(t *testing.T, r row) api.Errno {
	t.Helper()
	const where = drawnEnd - 0x40
	was := m.mem.Bytes()[where : where+0x20]
	for i, b := range lay(t, r) {
		if e := m.mem.Write(where+uint32(i), 1, uint32(b)); e != api.OK {
			t.Fatal(e)
		}
	}
	pc := m.pc
	m.pc = where
	in, e := m.decode()
	if e != api.OK {
		t.Fatal(e)
	}
	for i, b := range was {
		m.mem.Write(where+uint32(i), 1, uint32(b))
	}
	m.pc = pc
	w, e := m.operands(in)
	if e != api.OK {
		t.Fatal(e)
	}
	e = m.do(w)
	m.telling = telling{}
	return e
}

func TestWhatWasSavedIsThereAgain(t *testing.T) {
	d := drawing(t, rand.New(rand.NewSource(1909)))
	undone, restored := 0, 0
	for i := range 400 {
		d.wild = []int{60, 300, 1000}[i%3]
		w := world(t, inputs()...)
		m, e := New(d.game(), w)
		if e != api.OK {
			continue
		}
		if _, e := m.Run(30 + d.Intn(60)); e != api.OK || m.stk.Top()+16 > m.mem.Header().StackSize {
			continue
		}
		m.mem.Protect(0, 0)
		ref, _ := w.Call(space{m.mem, m.stk}, api.GlkRefName, 0, drawnName, 0)
		for _, id := range []uint32{drawnFile, 5, 6, 7, 8} {
			w.Call(space{m.mem, m.stk}, api.GlkStrClose, id, 0)
		}
		str, _ := w.Call(space{m.mem, m.stk}, api.GlkStrFile, ref, api.StreamBoth, 0)
		want, pc := stateOf(m), m.pc
		if e := m.now(t, in("saveundo", none)); e != api.OK {
			t.Fatal(e)
		}
		kept := m.Undos()
		if e := m.now(t, in("save", c(str), none)); e != api.OK {
			t.Fatal(e)
		}
		file, _ := w.File("ab")
		file = slices.Clone(file)
		// Whatever comes between, but what is protected.
		m.Run(d.Intn(100))
		m.mem.Protect(0, 0)
		if m.stk.Top() == 0 {
			continue
		}
		if m.Undos() >= kept && kept < api.KeptUndo-2 {
			for m.Undos() > kept {
				m.undo.Pop()
			}
			if e := m.now(t, in("restoreundo", none)); e != api.OK {
				t.Fatal(e)
			}
			if m.pc == pc && m.Undos() == kept-1 {
				undone++
				sameState(t, stateOf(m), want)
			}
		}
		if now, _ := w.File("ab"); slices.Equal(now, file) && !w.Over() {
			if _, e := w.Call(space{m.mem, m.stk}, api.GlkStrSeek, str, 0, 0); e != api.OK {
				t.Fatal(e)
			}
			if e := m.now(t, in("restore", c(str), none)); e != api.OK {
				t.Fatal(e)
			}
			if m.pc == pc {
				restored++
				sameState(t, stateOf(m), want)
			}
		}
		if t.Failed() {
			t.Fatal(i)
		}
	}
	if undone < 80 || restored < 80 {
		t.Error(undone, restored)
	}
}

func TestUndoneIsAsItWas(t *testing.T) {
	// Between there are writes, calls, a heap, another size, a restart, and other states to undo.
	between := [][]row{
		{in("copy", c(5), at(0x900)), in("mzero", c(0x100), c(0xa00))},
		{in("callfi", c(fAt), c(5), sp)},
		{in("malloc", c(500), sp), in("malloc", c(20), sp)},
		{in("mfree", c(memEnd))},
		{in("mfree", c(memEnd)), in("setmemsize", c(memEnd+0x300), sp)},
		{in("saveundo", sp), in("copy", c(6), at(0x910)), in("discardundo")},
		{in("copy", c(7), local(0)), in("stkcopy", c(2)), in("stkroll", c(3), c(1))},
		{in("setmemsize", c(0), none), in("protect", c(0x2000), c(5))},
	}
	for _, undo := range []bool{true, false} {
		for _, rows := range between {
			save, restore := in("saveundo", local(8)), in("restoreundo", local(8))
			if !undo {
				save, restore = in("save", c(2), local(8)), in("restore", c(2), local(8))
			}
			ahead := []row{in("copy", c(1), sp), in("copy", c(2), sp), in("copy", c(3), at(0x910)), in("malloc", c(100), local(4))}
			all := slices.Concat(ahead, []row{save}, rows, []row{restore})
			l := fileName()
			l[fAt] = fun(t, api.FuncLocals, locals(1), in("copy", local(0), sp), in("copy", local(0), at(0x904)), in("jump", c(1)))
			m := machine(t, l, all...)
			openFile(t, m, api.StreamBoth)
			steps(t, m, len(ahead)+1)
			want, pc := stateOf(m), m.PC()
			for m.PC() != first+uint32(len(asm(t, all[:len(all)-1]...))) {
				steps(t, m, 1)
			}
			if i := stateOf(m); slices.Equal(i.mem, want.mem) && slices.Equal(i.stk, want.stk) && len(rows) < 2 {
				t.Error("nothing came between")
			}
			rewind(t, m, 2)
			steps(t, m, 1)
			hasPC(t, m, pc)
			hasLocal(t, m, 8, top)
			m.stk.SetLocal(8, 4, 0)
			sameState(t, stateOf(m), want)
		}
	}
}

// P19.10

// drawnText: so many characters of an alphabet, by chance.
func (d *drawer) drawnText(most int) (alphabet, l []uint32) {
	wide := d.Intn(2) == 0
	for range 1 + d.Intn(60) {
		c := uint32(1 + d.Intn(255))
		if wide && d.Intn(3) == 0 {
			c = d.Uint32() | 1
		}
		if !slices.Contains(alphabet, c) {
			alphabet = append(alphabet, c)
		}
	}
	for range d.Intn(most) {
		l = append(l, alphabet[d.Intn(len(alphabet))])
	}
	return alphabet, l
}

func TestATextTellsTheSame(t *testing.T) {
	d := drawing(t, rand.New(rand.NewSource(1910)))
	d.wild = 1000
	seen := 0
	for range 150 {
		alphabet, l := d.drawnText(40)
		kinds := map[uint32][]byte{}
		kinds[api.TextWords] = append(append([]byte{api.TextWords, 1, 2, 3}, be(l...)...), be(0)...)
		p, e := text.Pack(alphabet, l)
		if e != api.OK {
			t.Fatal(e)
		}
		kinds[api.TextPacked] = p
		tree, e := text.Table(tableAt, alphabet...)
		if e != api.OK {
			t.Fatal(e)
		}
		if len(tree) > 0x1f0 {
			continue
		}
		narrow := []byte{api.TextBytes}
		for _, c := range l {
			narrow = append(narrow, byte(c))
		}
		if !slices.ContainsFunc(l, func(c uint32) bool { return c > 255 }) {
			kinds[api.TextBytes] = append(narrow, 0)
		}
		for _, b := range kinds {
			if len(b) > 0xf0 {
				t.Fatal(len(b))
			}
			for mode := uint32(1); mode < 3; mode++ {
				m := teller(t, mode, laid{textAt: b, tableAt: tree}, in("streamstr", c(textAt)), in("quit"))
				if _, e := m.Run(10000); e != api.ErrOver {
					t.Fatal(e)
				}
				var got []uint32
				for _, said := range m.world.Out() {
					got = append(got, said.Text...)
				}
				for i := range word4(t, m, keptAt) {
					got = append(got, word4(t, m, keptAt+4+4*i))
				}
				if !slices.Equal(got, l) {
					t.Fatalf("mode %d: %x; want %x", mode, got, l)
				}
				seen++
			}
		}
	}
	if seen < 400 {
		t.Error(seen)
	}
}
