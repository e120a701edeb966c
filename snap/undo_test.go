package snap

import (
	"math"
	"math/rand"
	"testing"

	"grotto/api"
)

// stateNumber: a state that is unlike those of other numbers in all its parts.
func stateNumber(n int) api.State {
	return api.State{
		Ram:    laid(n, numbered(n%7)),
		Heap:   uint32(n),
		Blocks: blocks(1+n%5, uint32(n), 3),
		Stack:  laid(n, n),
	}
}

// keeper: one that keeps so many.
func keeper(t *testing.T, most int) *Undo {
	t.Helper()
	u, e := NewUndo(most)
	same(t, "NewUndo's error", e, api.OK)
	same(t, "whether it is nil", u == nil, false)
	same(t, "Len of a new one", u.Len(), 0)
	return u
}

// expectPop: Pop tells that state, and true.
func expectPop(t *testing.T, what string, u *Undo, want api.State) {
	t.Helper()
	st, ok := u.Pop()
	same(t, what+": Pop", ok, true)
	sameState(t, what, st, want)
}

// expectNone: Pop tells the zero State, and false, however often.
func expectNone(t *testing.T, what string, u *Undo) {
	t.Helper()
	for range 2 {
		st, ok := u.Pop()
		same(t, what+": Pop", ok, false)
		noState(t, what, st)
		same(t, what+": Len", u.Len(), 0)
	}
}

// P17.6

func TestNewUndo(t *testing.T) {
	for _, most := range []int{0, 1, 2, 8, 63, 64} {
		expectNone(t, "a new one", keeper(t, most))
	}
	for _, most := range []int{-1, -2, -64, math.MinInt, 65, 66, 128, 1 << 32, math.MaxInt} {
		u, e := NewUndo(most)
		same(t, "NewUndo's error", e, api.ErrArg)
		same(t, "whether it is nil", u == nil, true)
	}
}

func TestUndo(t *testing.T) {
	u := keeper(t, 3)
	u.Push(stateNumber(1))
	same(t, "Len", u.Len(), 1)
	u.Push(stateNumber(2))
	same(t, "Len", u.Len(), 2)
	expectPop(t, "the second", u, stateNumber(2))
	same(t, "Len", u.Len(), 1)
	u.Push(stateNumber(3))
	u.Push(stateNumber(4))
	same(t, "Len", u.Len(), 3)
	u.Push(stateNumber(5))
	same(t, "Len, when the first is gone", u.Len(), 3)
	expectPop(t, "the fifth", u, stateNumber(5))
	expectPop(t, "the fourth", u, stateNumber(4))
	expectPop(t, "the third", u, stateNumber(3))
	expectNone(t, "behind these", u)
	u.Push(stateNumber(6))
	expectPop(t, "the sixth", u, stateNumber(6))
	expectNone(t, "behind all", u)
}

func TestUndoKeepsMost(t *testing.T) {
	for _, most := range []int{0, 1, 2, 63, 64} {
		for _, n := range []int{0, 1, most - 1, most, most + 1, 2 * most, 2*most + 1, 300} {
			u := keeper(t, most)
			for i := range n {
				u.Push(stateNumber(i))
				same(t, "Len", u.Len(), min(i+1, most))
			}
			for i := n - 1; i >= max(0, n-most); i-- {
				expectPop(t, "one that is kept", u, stateNumber(i))
				same(t, "Len", u.Len(), i-max(0, n-most))
			}
			expectNone(t, "behind what is kept", u)
		}
	}
}

func TestUndoOfTheZeroState(t *testing.T) {
	u := keeper(t, 2)
	u.Push(api.State{})
	same(t, "Len", u.Len(), 1)
	expectPop(t, "the zero State", u, api.State{})
	expectNone(t, "behind it", u)
}

// TestUndoKeepsNoLists: what is handed in is neither changed nor kept, and what is told is no other's.
func TestUndoKeepsNoLists(t *testing.T) {
	u := keeper(t, 4)
	given := roomyState(stateNumber(12))
	kept := wholeCopy(given)
	u.Push(given)
	u.Push(given)
	u.Push(given)
	sameRoom(t, "behind Push", given, kept)
	spoil(given)
	first, ok := u.Pop()
	same(t, "Pop", ok, true)
	sameState(t, "changed behind Push", first, stateNumber(12))
	spoil(first)
	expectPop(t, "changed behind Pop", u, stateNumber(12))
	u.Push(first)
	spoil(first)
	u.Pop()
	expectPop(t, "changed, pushed and popped", u, stateNumber(12))
	spoil(given)
	expectNone(t, "behind all", u)
}

// TestUndosApart: two of them have nothing in common.
func TestUndosApart(t *testing.T) {
	u, v := keeper(t, 2), keeper(t, 2)
	u.Push(stateNumber(1))
	same(t, "Len of the other one", v.Len(), 0)
	v.Push(stateNumber(2))
	v.Push(stateNumber(3))
	expectPop(t, "the one's", u, stateNumber(1))
	expectNone(t, "the one", u)
	expectPop(t, "the other's", v, stateNumber(3))
	expectPop(t, "the other's", v, stateNumber(2))
}

func TestNilUndo(t *testing.T) {
	var u *Undo
	expectNone(t, "nil", u)
	u.Push(stateNumber(1))
	expectNone(t, "nil, behind Push", u)
}

// P17.10

func TestUndoByChance(t *testing.T) {
	r := rand.New(rand.NewSource(1708))
	for range 200 {
		most := someOf(r, 0, 1, 2, 3, 8, 63, 64, r.Intn(65))
		u := keeper(t, most)
		var want []int
		for i := range 300 {
			if r.Intn(5) < 3 {
				st := roomyState(stateNumber(i))
				u.Push(st)
				spoil(st)
				want = append(want, i)
				want = want[max(0, len(want)-most):]
			} else if len(want) == 0 {
				expectNone(t, "by chance", u)
			} else {
				expectPop(t, "by chance", u, stateNumber(want[len(want)-1]))
				want = want[:len(want)-1]
			}
			same(t, "Len", u.Len(), len(want))
		}
		for len(want) > 0 {
			expectPop(t, "at the end", u, stateNumber(want[len(want)-1]))
			want = want[:len(want)-1]
		}
		expectNone(t, "at the end", u)
	}
}

// TestUndoOfMemories: what was taken in turn is there again, the last one first, as it was.
func TestUndoOfMemories(t *testing.T) {
	r := rand.New(rand.NewSource(1709))
	for range 20 {
		m, s := someMemory(t, r), someStack(t, r)
		u := keeper(t, 8)
		var want []api.State
		for range 12 {
			happenMuch(r, m, s)
			st, e := Take(m, s)
			same(t, "Take's error", e, api.OK)
			want = append(want, stateOf(m, s))
			u.Push(st)
			spoil(st)
		}
		same(t, "Len", u.Len(), 8)
		for i := 11; i >= 4; i-- {
			happenMuch(r, m, s)
			st, ok := u.Pop()
			same(t, "Pop", ok, true)
			same(t, "Load", Load(m, s, st), api.OK)
			sameState(t, "undone", stateOf(m, s), want[i])
		}
		expectNone(t, "all are undone", u)
	}
}
