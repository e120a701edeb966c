/- A memory as it lies in memory of the call's own: its cells, the rows of its game and of its bytes, its heap; and what a call on it may change. Contracts of the small functions of package memory, and of slices.Clone over bytes. append(s, make([]byte, k)...) over an owned row: what it holds behind it, and where it lies. Contracts of begun, carry and become of package memory. -/
import Derived.Test.YtpgppdkbkkljnaaH7j
import Derived.Test.YtpgppdkbkkljnaaE8Z
namespace Go.Proofs.Ytpgppdkbkkljnaa
open Go.RowKit
set_option maxHeartbeats 1000000
set_option maxRecDepth 100000
set_option linter.unusedVariables false

/-- what a memory holds -/
structure Ms where
  v : Int
  ram : Nat
  ext : Int
  en : Nat
  st : Int
  start : Int
  tab : Int
  sm : Int
  game : List Int
  bytes : List Int
  hp : Hs
  pf : Nat
  pt : Nat
def mcells (s : Ms) (gv bv pv : Value) : Array Value := #[.int .u32 s.v, .int .u32 s.ram, .int .u32 s.ext, .int .u32 s.en, .int .u32 s.st, .int .u32 s.start, .int .u32 s.tab, .int .u32 s.sm, gv, bv, pv, .int .u64 s.pf, .int .u64 s.pt]
/-- a memory's own cells -/
def MBox (w : World) (m : Nat) (s : Ms) (gv bv pv : Value) : Prop := w.heap[m]? = some (.cells (mcells s gv bv pv) 87 (0, 0))
structure MAt (B : Nat) (w : World) (m gb gc bb bc h : Nat) (hv : Value) (s : Ms) : Prop where
  base : B ≤ m
  box : MBox w m s (.slice (some ⟨gb, 0, none⟩) s.game.length gc) (.slice (some ⟨bb, 0, none⟩) s.bytes.length bc) (.pointer (some ⟨h, 0, none⟩))
  game : w.ownsRow B 5 1 (.slice (some ⟨gb, 0, none⟩) s.game.length gc) s.game.length (bytesV s.game)
  row : w.ownsRow B 5 1 (.slice (some ⟨bb, 0, none⟩) s.bytes.length bc) s.bytes.length (bytesV s.bytes)
  heap : HpAt B w h hv s.hp
  ne : gb ≠ bb
theorem MBox.cells {w : World} {m : Nat} {s : Ms} {gv bv pv : Value} (h : MBox w m s gv bv pv) : w.cell? ⟨m, 1, none⟩ = some (.int .u32 s.ram) ∧ w.cell? ⟨m, 3, none⟩ = some (.int .u32 s.en) ∧ w.cell? ⟨m, 8, none⟩ = some gv ∧ w.cell? ⟨m, 9, none⟩ = some bv ∧ w.cell? ⟨m, 10, none⟩ = some pv ∧ w.cell? ⟨m, 11, none⟩ = some (.int .u64 s.pf) ∧ w.cell? ⟨m, 12, none⟩ = some (.int .u64 s.pt) ∧ (∀ j, w.frozen? ⟨m, j, none⟩ = false) := by
  unfold MBox at h
  refine ⟨by simp [World.cell?, h, mcells], by simp [World.cell?, h, mcells], by simp [World.cell?, h, mcells], by simp [World.cell?, h, mcells], by simp [World.cell?, h, mcells], by simp [World.cell?, h, mcells], by simp [World.cell?, h, mcells], fun j => by simp [World.frozen?, h]⟩
theorem MBox.lt {w : World} {m : Nat} {s : Ms} {gv bv pv : Value} (h : MBox w m s gv bv pv) : m < w.heap.size := (Array.getElem?_eq_some_iff.1 h).1
theorem MBox.later {w w' : World} {m : Nat} {s : Ms} {gv bv pv : Value} (h : MBox w m s gv bv pv) (hb : Below w.heap.size w w') : MBox w' m s gv bv pv := (hb.block m h.lt).trans h
theorem mset {w : World} {m : Nat} {cs : Array Value} (hh : w.heap[m]? = some (.cells cs 87 (0, 0))) (i : Nat) (u : Value) : (w.setCell ⟨m, i, none⟩ u).heap[m]? = some (.cells (cs.setIfInBounds i u) 87 (0, 0)) := by
  have := setCell_eq_setRow w m i cs 87 (0, 0) u hh
  rw [this]
  exact setRow_heap w m cs _ _ _ hh
theorem MBox.set9 {w : World} {m : Nat} {s : Ms} {gv bv pv : Value} (h : MBox w m s gv bv pv) (u : Value) (bs : List Int) : MBox (w.setCell ⟨m, 9, none⟩ u) m { s with bytes := bs } gv u pv := by
  have := mset h 9 u
  unfold MBox
  rw [this]; simp [mcells]
theorem MBox.set10 {w : World} {m : Nat} {s : Ms} {gv bv pv : Value} (h : MBox w m s gv bv pv) (u : Value) (t : Hs) : MBox (w.setCell ⟨m, 10, none⟩ u) m { s with hp := t } gv bv u := by
  have := mset h 10 u
  unfold MBox
  rw [this]; simp [mcells]
theorem MBox.setp {w : World} {m : Nat} {s : Ms} {gv bv pv : Value} (h : MBox w m s gv bv pv) (x y : Nat) : MBox ((w.setCell ⟨m, 11, none⟩ (.int .u64 x)).setCell ⟨m, 12, none⟩ (.int .u64 y)) m { s with pf := x, pt := y } gv bv pv := by
  have h1 := mset h 11 (.int .u64 x)
  have h2 := mset h1 12 (.int .u64 y)
  unfold MBox
  rw [h2]; simp [mcells]
/-- what lies in a block of one kind is no row of another -/
theorem MBox.ne8 {w : World} {m : Nat} {s : Ms} {gv bv pv : Value} (H : MBox w m s gv bv pv) {base n : Nat} {v : Value} {xs : List Value} (ho : w.ownsRow base 5 1 v n xs) : v.ownBlock ≠ some m := by
  intro e
  rcases ho.2 with ⟨h1, _⟩ | ⟨g, cap, cur, h1, h2, h3, _⟩
  · rw [h1] at e; cases e
  · rw [h1] at e
    simp only [Value.ownBlock, Option.some.injEq] at e
    subst e
    rw [show w.heap[g]? = _ from H] at h3
    simp at h3
theorem MBox.neb {w : World} {m : Nat} {s : Ms} {gv bv pv : Value} (H : MBox w m s gv bv pv) {base n : Nat} {v : Value} {xs : List Value} (ho : w.ownsRow base 178 2 v n xs) : v.ownBlock ≠ some m := by
  intro e
  rcases ho.2 with ⟨h1, _⟩ | ⟨g, cap, cur, h1, h2, h3, _⟩
  · rw [h1] at e; cases e
  · rw [h1] at e
    simp only [Value.ownBlock, Option.some.injEq] at e
    subst e
    rw [show w.heap[g]? = _ from H] at h3
    simp at h3
theorem MBox.neh {w : World} {m h : Nat} {s : Ms} {gv bv pv : Value} (H : MBox w m s gv bv pv) {cs : Array Value} (hh : w.heap[h]? = some (.cells cs 136 (0, 0))) : m ≠ h := by
  intro e
  subst e
  rw [show w.heap[m]? = _ from H] at hh
  simp at hh
theorem ne_8h {w : World} {base n h : Nat} {v : Value} {xs : List Value} {cs : Array Value} (ho : w.ownsRow base 5 1 v n xs) (hh : w.heap[h]? = some (.cells cs 136 (0, 0))) : v.ownBlock ≠ some h := by
  intro e
  rcases ho.2 with ⟨h1, _⟩ | ⟨g, cap, cur, h1, h2, h3, _⟩
  · rw [h1] at e; cases e
  · rw [h1] at e
    simp only [Value.ownBlock, Option.some.injEq] at e
    subst e
    rw [hh] at h3
    simp at h3
theorem ne_8b {w : World} {B1 B2 n1 n2 : Nat} {u v : Value} {xs ys : List Value} (ho : w.ownsRow B1 5 1 u n1 xs) (hp : w.ownsRow B2 178 2 v n2 ys) (k : Nat) (e : u.ownBlock = some k) : v.ownBlock ≠ some k := by
  intro e2
  rcases ho.2 with ⟨h1, _⟩ | ⟨g, cap, cur, h1, h2, h3, _⟩
  · rw [h1] at e; cases e
  · rcases hp.2 with ⟨q1, _⟩ | ⟨g', cap', cur', q1, q2, q3, _⟩
    · rw [q1] at e2; cases e2
    · rw [h1] at e; rw [q1] at e2
      simp only [Value.ownBlock, Option.some.injEq] at e e2
      subst e; subst e2
      rw [h3] at q3
      simp at q3
/-- the blocks that a call on a memory may change -/
def Tch (m h bb : Nat) (hv : Value) (k : Nat) : Prop := k = m ∨ k = bb ∨ k = h ∨ hv.ownBlock = some k
/-- what a call leaves alone, but for the blocks T; behind it they are T' -/
structure Fm (w w' : World) (T T' : Nat → Prop) : Prop where
  os : w'.os = w.os
  tape : w'.tape = w.tape
  output : w'.output = w.output
  size : w.heap.size ≤ w'.heap.size
  block : ∀ k, k < w.heap.size → ¬ T k → w'.heap[k]? = w.heap[k]?
  row : ∀ k, T' k → T k ∨ w.heap.size ≤ k
theorem Fm.same {w w' : World} {T : Nat → Prop} (hb : Below w.heap.size w w') : Fm w w' T T := ⟨hb.os, hb.tape, hb.output, hb.size, fun k hk _ => hb.block k hk, fun k hk => .inl hk⟩
theorem Fm.trans {w w1 w2 : World} {T T1 T2 : Nat → Prop} (f : Fm w w1 T T1) (g : Fm w1 w2 T1 T2) : Fm w w2 T T2 :=
  ⟨g.os.trans f.os, g.tape.trans f.tape, g.output.trans f.output, Nat.le_trans f.size g.size, fun k hk hn => by
    rw [g.block k (by have := f.size; omega) (fun e => by rcases f.row k e with h' | h'; · exact hn h'
                                                          · omega), f.block k hk hn],
   fun k hk => by
    rcases g.row k hk with h' | h'
    · exact f.row k h'
    · exact .inr (by have := f.size; omega)⟩
theorem Fm.below {B : Nat} {w w' : World} {T T' : Nat → Prop} (f : Fm w w' T T') (hB : B ≤ w.heap.size) (hT : ∀ k, T k → B ≤ k) : Below B w w' :=
  ⟨f.os, f.tape, f.output, f.size, fun k hk => f.block k (by omega) (fun e => by have := hT k e; omega)⟩
theorem Fm.set {w w' : World} {T T' : Nat → Prop} (f : Fm w w' T T') (m i : Nat) (u : Value) (hm : T m) : Fm w (w'.setCell ⟨m, i, none⟩ u) T T' :=
  ⟨f.os, f.tape, f.output, by have := f.size; simpa using this, fun k hk hn => by rw [heap_setCell_other _ _ _ _ (show k ≠ m from fun e => hn (e ▸ hm))]; exact f.block k hk hn, f.row⟩
theorem Fm.wide {w w' : World} {T T' U : Nat → Prop} (f : Fm w w' T T') (h : ∀ k, T k → U k) (h2 : ∀ k, U k → U k) : Fm w w' U (fun k => U k ∨ T' k) :=
  ⟨f.os, f.tape, f.output, f.size, fun k hk hn => f.block k hk (fun e => hn (h k e)), fun k hk => by rcases hk with h' | h'; · exact .inl h'
                                                                                                     · rcases f.row k h' with h'' | h''; · exact .inl (h k h'')
                                                                                                       · exact .inr h''⟩
theorem Fm.to {w w' : World} {T T' U U' : Nat → Prop} (f : Fm w w' T T') (h : ∀ k, T k → U k) (h2 : ∀ k, U' k → U k ∨ T' k) : Fm w w' U U' :=
  ⟨f.os, f.tape, f.output, f.size, fun k hk hn => f.block k hk (fun e => hn (h k e)), fun k hk => by rcases h2 k hk with h' | h'; · exact .inl h'
                                                                                                     · rcases f.row k h' with h'' | h''; · exact .inl (h k h'')
                                                                                                       · exact .inr h''⟩
theorem Fm.heap {w w' : World} {h : Nat} {hv hv' : Value} (f : Fr w w' h hv hv') (m bb : Nat) : Fm w w' (Tch m h bb hv) (Tch m h bb hv') :=
  ⟨f.os, f.tape, f.output, f.size, fun k hk hn => f.block k hk (fun e => hn (.inr (.inr (.inl e)))) (fun e => hn (.inr (.inr (.inr e)))), fun k hk => by
    rcases hk with h' | h' | h' | h'
    · exact .inl (.inl h')
    · exact .inl (.inr (.inl h'))
    · exact .inl (.inr (.inr (.inl h')))
    · rcases f.row k h' with h'' | h''
      · exact .inl (.inr (.inr (.inr h'')))
      · exact .inr h''⟩
theorem own8_fm {B : Nat} {w w' : World} {T T' : Nat → Prop} {v : Value} {n e size : Nat} {xs : List Value} (f : Fm w w' T T') (ho : w.ownsRow B e size v n xs) (hn : ∀ k, v.ownBlock = some k → ¬ T k) : w'.ownsRow B e size v n xs := by
  refine ⟨ho.1, ?_⟩
  rcases ho.2 with h1 | ⟨g, cap, cur, h1, h2, h3, h4⟩
  · exact .inl h1
  · refine .inr ⟨g, cap, cur, h1, h2, ?_, h4⟩
    rw [f.block g (Array.getElem?_eq_some_iff.1 h3).1 (hn g (by rw [h1]; rfl))]; exact h3
theorem MAt.low {B : Nat} {w : World} {m gb gc bb bc h : Nat} {hv : Value} {s : Ms} (H : MAt B w m gb gc bb bc h hv s) : ∀ k, Tch m h bb hv k → B ≤ k ∧ k < w.heap.size := by
  intro k hk
  rcases hk with rfl | rfl | rfl | e
  · exact ⟨H.base, H.box.lt⟩
  · have := H.row.lt k rfl; exact this
  · exact ⟨H.heap.1, (Array.getElem?_eq_some_iff.1 H.heap.2.1).1⟩
  · have := H.heap.2.2.lt k e; exact this
theorem MAt.free {B : Nat} {w : World} {m gb gc bb bc h : Nat} {hv : Value} {s : Ms} (H : MAt B w m gb gc bb bc h hv s) : ¬ Tch m h bb hv gb := by
  intro hk
  rcases hk with e | e | e | e
  · exact H.box.ne8 H.game (by rw [← e]; rfl)
  · exact H.ne e
  · exact ne_8h H.game H.heap.2.1 (by rw [← e]; rfl)
  · exact ne_8b H.game H.heap.2.2 gb rfl e
theorem MAt.later {B : Nat} {w w' : World} {m gb gc bb bc h : Nat} {hv : Value} {s : Ms} (H : MAt B w m gb gc bb bc h hv s) (hb : Below w.heap.size w w') : MAt B w' m gb gc bb bc h hv s :=
  ⟨H.base, H.box.later hb, own_later H.game hb, own_later H.row hb, H.heap.later hb, H.ne⟩
/-- a call on the heap -/
theorem MAt.step {B : Nat} {w w' : World} {m gb gc bb bc h : Nat} {hv hv' : Value} {s : Ms} {t : Hs} (H : MAt B w m gb gc bb bc h hv s) (hp : HpAt B w' h hv' t) (f : Fr w w' h hv hv') : MAt B w' m gb gc bb bc h hv' { s with hp := t } := by
  have keep : ∀ k o, w.heap[k]? = some o → k ≠ h → hv.ownBlock ≠ some k → w'.heap[k]? = some o := fun k o e h1 h2 => by rw [f.block k (Array.getElem?_eq_some_iff.1 e).1 h1 h2]; exact e
  have row : ∀ (v : Value) n xs, w.ownsRow B 5 1 v n xs → w'.ownsRow B 5 1 v n xs := fun v n xs ho => by
    refine ⟨ho.1, ?_⟩
    rcases ho.2 with h1 | ⟨g, cap, cur, h1, h2, h3, h4⟩
    · exact .inl h1
    · have e : v.ownBlock = some g := by rw [h1]; rfl
      exact .inr ⟨g, cap, cur, h1, h2, keep g _ h3 (fun e2 => ne_8h ho H.heap.2.1 (by rw [e, e2])) (ne_8b ho H.heap.2.2 g e), h4⟩
  refine ⟨H.base, keep m _ H.box (H.box.neh H.heap.2.1) (fun e => H.box.neb H.heap.2.2 e), row _ _ _ H.game, row _ _ _ H.row, hp, H.ne⟩
/-- the memory's bytes are another row -/
theorem MAt.bytes {B : Nat} {w w' : World} {m gb gc bb bc h bb' bc' : Nat} {hv : Value} {s : Ms} {zs : List Int} (H : MAt B w m gb gc bb bc h hv s) (f : Fm w w' (fun k => k = bb) (fun k => k = bb'))
    (ho : w'.ownsRow B 5 1 (.slice (some ⟨bb', 0, none⟩) zs.length bc') zs.length (bytesV zs)) : MAt B (w'.setCell ⟨m, 9, none⟩ (.slice (some ⟨bb', 0, none⟩) zs.length bc')) m gb gc bb' bc' h hv { s with bytes := zs } ∧ Fm w (w'.setCell ⟨m, 9, none⟩ (.slice (some ⟨bb', 0, none⟩) zs.length bc')) (Tch m h bb hv) (Tch m h bb' hv) := by
  have hb : MBox w' m s (.slice (some ⟨gb, 0, none⟩) s.game.length gc) (.slice (some ⟨bb, 0, none⟩) s.bytes.length bc) (.pointer (some ⟨h, 0, none⟩)) := by
    have e : w'.heap[m]? = w.heap[m]? := f.block m H.box.lt (fun e => H.box.ne8 H.row (by rw [e]; rfl))
    unfold MBox; rw [e]; exact H.box
  have hh : w'.heap[h]? = w.heap[h]? := f.block h (Array.getElem?_eq_some_iff.1 H.heap.2.1).1 (fun e => ne_8h H.row H.heap.2.1 (by rw [e]; rfl))
  have hg : w'.ownsRow B 5 1 (.slice (some ⟨gb, 0, none⟩) s.game.length gc) s.game.length (bytesV s.game) := own8_fm f H.game (fun k e e2 => H.ne (by simp only [Value.ownBlock, Option.some.injEq] at e; rw [e, e2]))
  have hr : w'.ownsRow B 178 2 hv s.hp.bs.length (bksV s.hp.bs) := own8_fm f H.heap.2.2 (fun k e e2 => ne_8b H.row H.heap.2.2 k (by rw [e2]; rfl) e)
  have hp' : HpAt B w' h hv s.hp := ⟨H.heap.1, by rw [hh]; exact H.heap.2.1, hr⟩
  have hmh : m ≠ h := hb.neh hp'.2.1
  refine ⟨⟨H.base, hb.set9 _ zs, ownsRow_setCell_other hg (by simpa using hb.ne8 hg) _, ownsRow_setCell_other ho (by simpa using hb.ne8 ho) _, ⟨H.heap.1, ?_, ownsRow_setCell_other hr (by simpa using hb.neb hr) _⟩, ?_⟩, ?_⟩
  · rw [heap_setCell_other _ _ _ _ (show h ≠ m from fun e => hmh e.symm)]; exact hp'.2.1
  · intro e
    rcases f.row gb (by exact e) with h' | h'
    · exact H.ne h'
    · have := (H.game.lt gb rfl).2; omega
  · refine (f.to (U := Tch m h bb hv) (U' := Tch m h bb' hv) (fun k e => .inr (.inl e)) (fun k e => ?_)).set m 9 _ (.inl rfl)
    rcases e with e | e | e | e
    · exact .inl (.inl e)
    · exact .inr e
    · exact .inl (.inr (.inr (.inl e)))
    · exact .inl (.inr (.inr (.inr e)))
/-- the memory's bytes are changed where they are -/
theorem MAt.inplace {B : Nat} {w w' : World} {m gb gc bb bc h : Nat} {hv : Value} {s : Ms} {zs : List Int} (H : MAt B w m gb gc bb bc h hv s) (f : Fm w w' (fun k => k = bb) (fun k => k = bb)) (hl : zs.length = s.bytes.length)
    (ho : w'.ownsRow B 5 1 (.slice (some ⟨bb, 0, none⟩) s.bytes.length bc) s.bytes.length (bytesV zs)) : MAt B w' m gb gc bb bc h hv { s with bytes := zs } ∧ Fm w w' (Tch m h bb hv) (Tch m h bb hv) := by
  have hb : MBox w' m s (.slice (some ⟨gb, 0, none⟩) s.game.length gc) (.slice (some ⟨bb, 0, none⟩) s.bytes.length bc) (.pointer (some ⟨h, 0, none⟩)) := by
    have e : w'.heap[m]? = w.heap[m]? := f.block m H.box.lt (fun e => H.box.ne8 H.row (by rw [e]; rfl))
    unfold MBox; rw [e]; exact H.box
  have hh : w'.heap[h]? = w.heap[h]? := f.block h (Array.getElem?_eq_some_iff.1 H.heap.2.1).1 (fun e => ne_8h H.row H.heap.2.1 (by rw [e]; rfl))
  have hg : w'.ownsRow B 5 1 (.slice (some ⟨gb, 0, none⟩) s.game.length gc) s.game.length (bytesV s.game) := own8_fm f H.game (fun k e e2 => H.ne (by simp only [Value.ownBlock, Option.some.injEq] at e; rw [e, e2]))
  have hr : w'.ownsRow B 178 2 hv s.hp.bs.length (bksV s.hp.bs) := own8_fm f H.heap.2.2 (fun k e e2 => ne_8b H.row H.heap.2.2 k (by rw [e2]; rfl) e)
  refine ⟨⟨H.base, ?_, hg, ?_, ⟨H.heap.1, by rw [hh]; exact H.heap.2.1, hr⟩, H.ne⟩, f.to (fun k e => .inr (.inl e)) (fun k e => .inl e)⟩
  · unfold MBox at hb ⊢; rw [hb]; simp [mcells, hl]
  · show w'.ownsRow B 5 1 (.slice (some ⟨bb, 0, none⟩) zs.length bc) zs.length (bytesV zs)
    rw [hl]; exact ho
end Go.Proofs.Ytpgppdkbkkljnaa
namespace Go.Proofs.Ytpgppdkbkkljnaa
open Go.RowKit
set_option maxHeartbeats 1000000
set_option maxRecDepth 100000
set_option linter.unusedVariables false

theorem bclone_any (a : Option Addr) (n c : Nat) (zs : List Int) (w : World) (h : Reads w a n c zs) (hn : n ≤ 2000000) :
    Calls Try.prog 41 #[.slice a n c] w fun e w' => ∃ a' c', e = .returned (.slice a' n c') ∧ w'.ownsRow w.heap.size 5 1 (.slice a' n c') n (bytesV zs) ∧ Below w.heap.size w w' := by
  obtain ⟨i0, hi, hz0, hz1, hz2⟩ := info_parts info8
  have hzl := h.1
  cases a with
  | none =>
    obtain ⟨h1, h2, h3⟩ := h
    rcases h3 with ⟨_, rfl, rfl⟩ | ⟨x, h4, _⟩
    · obtain rfl : zs = [] := List.eq_nil_of_length_eq_zero h1
      have heq : ∀ w, (binOp .eql 50 (.slice none 0 0) (.slice none 0 0)).run Try.prog w = .ok (.bool true) w := fun w => Lib.run_eql_slice_nil w _ _ none 0 0 0 0 Try.underlying50
      go_enter Try.func41, Try.ntmps41
      go_wp2
      go_ret
      exact ⟨none, 0, rfl, World.ownsRow_nil _ _ _ _, Below.refl _ _⟩
    · cases h4
  | some x =>
    have HN := hidden h.news
    have hb0 : Below w.heap.size w (w.alloc (.cells #[] 5)) := (Below.refl _ _).alloc (Nat.le_refl _) _
    have HM := hidden (World.ownsRow_made (base := w.heap.size) (e := 5) (size := 1) w #[] 0 (Nat.le_refl _) (Nat.zero_le _) (by simp))
    have HN1 : Hid (∀ j u, (bytesV zs)[j]? = some u → (w.alloc (.cells #[] 5)).cell? (x.add j) = some u) := hidden fun j u h => cellLater hb0 (HN.out j u h)
    have heq : ∀ w, (binOp .eql 50 (.slice (some x) n c) (.slice none 0 0)).run Try.prog w = .ok (.bool false) w := fun w => Lib.run_eql_slice_nil w _ _ (some x) n c 0 0 Try.underlying50
    have HZ := hidden hzl
    clear HN h hb0 hzl
    go_enter Try.func41, Try.ntmps41
    go_wp2_with (at_builtin; refine wpList_append_own _ rfl _ _ 50 rfl w.heap.size 5 i0 (.int .u8 0) 1 1 Try.underlying50 hi hz0 hz1 hz2 rfl (by decide) (.slice (some ⟨w.heap.size, 0, none⟩) 0 0) 0 [] rfl HM.out x n c (bytesV zs) rfl (by simp [bytesV, HZ.out]) HN1.out (bytesV_one zs) (by unfold maxLen; omega) (by omega) (by simp) ?_; intro v' w' hown' hgrow hnil)
    go_ret
    rw [Nat.zero_add, List.nil_append] at hown'
    have hb : Below w.heap.size w w' := (((Below.refl w.heap.size w).alloc (Nat.le_refl _) _)).grown hgrow (by simp) (fun j hj => by simp [Value.ownBlock] at hj; omega)
    rcases Joins.ownsRow_forms hown' with ⟨rfl, rfl⟩ | ⟨g, cap, rfl⟩
    · exact ⟨_, _, rfl, hown', hb⟩
    · exact ⟨_, _, rfl, hown', hb⟩
theorem own_reads {w : World} {B g n cap : Nat} {zs : List Int} (h : w.ownsRow B 5 1 (.slice (some ⟨g, 0, none⟩) n cap) n (bytesV zs)) : Reads w (some ⟨g, 0, none⟩) n cap zs := by
  obtain ⟨_, _, _, _, hc, _⟩ := own_splice h
  exact (own_bs h).reads cap hc
/-- a call on a space: how many bytes there are -/
theorem size_any (m L c : Nat) (a : Option Addr) (w : World) (h : w.cell? ⟨m, 9, none⟩ = some (.slice a L c)) (hL : L < 4294967296) :
    Calls Try.prog 47 #[.pointer (some ⟨m, 9, none⟩)] w fun e w' => e = .returned (.int .u32 L) ∧ w' = w := by
  have hw : IntKind.u32.wrap (L : Int) = L := by rw [IntKind.wrap_u32]; omega
  go_enter Try.func47, Try.ntmps47
  go_wp2
  go_ret
  exact ⟨rfl, rfl⟩
def hasR (L a n : Nat) : Bool := decide (a + n ≤ L)
theorem has_any (m L c a n : Nat) (x : Option Addr) (w : World) (h : w.cell? ⟨m, 9, none⟩ = some (.slice x L c)) (hL : L < 4294967296) (ha : a < 4294967296) (hn : n < 4294967296) :
    Calls Try.prog 31 #[.pointer (some ⟨m, 9, none⟩), .int .u32 a, .int .u32 n] w fun e w' => e = .returned (.bool (hasR L a n)) ∧ w' = w := by
  have HS := hidden (size_any m L c x w h hL)
  by_cases h1 : a ≤ L
  · have c1 : (a : Int) ≤ (L : Int) := by omega
    have hw : IntKind.u32.wrap ((L : Int) - (a : Int)) = (L : Int) - (a : Int) := by rw [IntKind.wrap_u32]; omega
    have hd : decide ((n : Int) ≤ (L : Int) - (a : Int)) = hasR L a n := by unfold hasR; by_cases h2 : a + n ≤ L <;> simp [h2] <;> omega
    generalize hasR L a n = R at *
    go_enter Try.func31, Try.ntmps31
    go_wp2_with (go_at_call 47; refine HS.out.mono ?_; rintro e w1 ⟨rfl, rfl⟩)
    go_ret
    first | exact ⟨rfl, rfl⟩ | (refine ⟨?_, rfl⟩; simp_all)
  · have c1 : ¬ (a : Int) ≤ (L : Int) := by omega
    have hd : hasR L a n = false := by unfold hasR; simp; omega
    rw [hd]; clear hd
    go_enter Try.func31, Try.ntmps31
    go_wp2_with (go_at_call 47; refine HS.out.mono ?_; rintro e w1 ⟨rfl, rfl⟩)
    go_ret
    first | exact ⟨rfl, rfl⟩ | (refine ⟨?_, rfl⟩; simp_all)
def chgR (r L a n : Nat) : Bool := decide (r ≤ a) && hasR L a n
theorem chg_any (m L c r a n : Nat) (x : Option Addr) (w : World) (h : w.cell? ⟨m, 9, none⟩ = some (.slice x L c)) (hr : w.cell? ⟨m, 1, none⟩ = some (.int .u32 r)) (hL : L < 4294967296) (ha : a < 4294967296) (hn : n < 4294967296) :
    Calls Try.prog 29 #[.pointer (some ⟨m, 0, none⟩), .int .u32 a, .int .u32 n] w fun e w' => e = .returned (.bool (chgR r L a n)) ∧ w' = w := by
  have HS := hidden (has_any m L c a n x w h hL ha hn)
  by_cases h1 : r ≤ a
  · have c1 : (a : Int) ≥ (r : Int) := by omega
    have hd : chgR r L a n = hasR L a n := by unfold chgR; simp [h1]
    rw [hd]; clear hd
    generalize hasR L a n = R at *
    clear h h1
    go_enter Try.func29, Try.ntmps29
    go_wp2_with (go_at_call 31; refine HS.out.mono ?_; rintro e w1 ⟨rfl, rfl⟩)
    go_ret
    first | exact ⟨rfl, rfl⟩ | (refine ⟨?_, rfl⟩; simp_all)
  · have c1 : ¬ (a : Int) ≥ (r : Int) := by omega
    have hd : chgR r L a n = false := by unfold chgR; simp [h1]
    rw [hd]; clear hd h
    go_enter Try.func29, Try.ntmps29
    go_wp2
    go_ret
    first | exact ⟨rfl, rfl⟩ | (refine ⟨?_, rfl⟩; simp_all)
theorem mwid_yes (n : Int) (w : World) (h : n = 1 ∨ n = 2 ∨ n = 4) : Calls Try.prog 28 #[.int .i64 n] w fun e w' => e = .returned (.bool true) ∧ w' = w := by
  rcases h with rfl | rfl | rfl
  all_goals (
    go_enter Try.func28, Try.ntmps28
    go_wp2
    go_ret
    exact ⟨rfl, rfl⟩)
theorem mwid_no (n : Int) (w : World) (h1 : (n == 1) = false) (h2 : (n == 2) = false) (h4 : (n == 4) = false) : Calls Try.prog 28 #[.int .i64 n] w fun e w' => e = .returned (.bool false) ∧ w' = w := by
  go_enter Try.func28, Try.ntmps28
  go_wp2
  go_ret
  exact ⟨rfl, rfl⟩
def endR (en x : Nat) : Bool := decide (en ≤ x) && decide (x ≤ 1048576) && decide (x % 256 = 0)
end Go.Proofs.Ytpgppdkbkkljnaa
namespace Go.Proofs.Ytpgppdkbkkljnaa
open Go.RowKit
set_option maxHeartbeats 1000000
set_option maxRecDepth 100000
set_option linter.unusedVariables false

theorem own8_cur {B : Nat} {w : World} {g n c : Nat} {zs : List Int} (h : w.ownsRow B 5 1 (.slice (some ⟨g, 0, none⟩) n c) n (bytesV zs)) :
    ∃ cur : List Value, B ≤ g ∧ w.heap[g]? = some (.cells cur.toArray 5 (0, 0)) ∧ n ≤ c ∧ c ≤ maxLen ∧ cur.length = c ∧ cur.take n = bytesV zs ∧ zs.length = n := by
  have hl : (bytesV zs).length = n * 1 := h.1
  rcases h.2 with ⟨h1, h2⟩ | ⟨g', cap, cur, h1, h2, h3, h4, h5, h6, h7⟩
  · cases h1
  · simp only [Value.slice.injEq, Option.some.injEq, Addr.mk.injEq, true_and, and_true] at h1
    obtain ⟨rfl, rfl⟩ := h1
    exact ⟨cur.toList, h2, by simpa using h3, h4, h5, by simpa using h6, by simpa using h7, by simpa [bytesV] using hl⟩
theorem own8_of {B : Nat} {w : World} {g n c : Nat} {zs : List Int} {cur : List Value} (hB : B ≤ g) (hg : w.heap[g]? = some (.cells cur.toArray 5 (0, 0))) (h1 : n ≤ c) (h2 : c ≤ maxLen) (h3 : cur.length = c) (h4 : cur.take n = bytesV zs) (h5 : zs.length = n) :
    w.ownsRow B 5 1 (.slice (some ⟨g, 0, none⟩) n c) n (bytesV zs) :=
  ⟨by simp [bytesV, h5], .inr ⟨g, c, cur.toArray, rfl, hB, hg, h1, h2, by simpa using h3, by simpa using h4⟩⟩
theorem own8_take {B : Nat} {w : World} {g n c : Nat} {zs : List Int} (h : w.ownsRow B 5 1 (.slice (some ⟨g, 0, none⟩) n c) n (bytesV zs)) (k : Nat) (hk : k ≤ n) : w.ownsRow B 5 1 (.slice (some ⟨g, 0, none⟩) k c) k (bytesV (zs.take k)) := by
  obtain ⟨cur, h1, h2, h3, h4, h5, h6, h7⟩ := own8_cur h
  refine own8_of h1 h2 (by omega) h4 h5 ?_ (by simp; omega)
  have := congrArg (List.take k) h6
  rw [List.take_take, Nat.min_eq_left hk] at this
  rw [this]; simp [bytesV, List.map_take]
def zer8 (k : Nat) : List Int := List.replicate k 0
theorem zer8_len (k : Nat) : (zer8 k).length = k := by simp [zer8]
theorem zc8 (k : Nat) : (Builtin.zeroCells (Value.int .u8 0).cells k).toList = bytesV (zer8 k) := by
  have hs : (Value.int .u8 0).cells.size = 1 := rfl
  apply List.ext_getElem
  · simp [Builtin.zeroCells, hs, bytesV, zer8]
  · intro i h1 h2
    simp only [Builtin.zeroCells, bytesV, zer8, Array.toList_map, List.getElem_map, List.getElem_replicate, hs, Nat.mod_one]
    rfl
theorem zc8a (k : Nat) : Builtin.zeroCells (Value.int .u8 0).cells k = (bytesV (zer8 k)).toArray := by rw [← zc8]
theorem run_app0_none (kq kn : IntKind) (tn ty : TypeId) (htn : Try.prog.underlying tn = some (.int kn)) (g n cap : Nat) (w : World) (h : n ≤ cap) :
    (Builtin.append_ #[50, tn] ty #[.slice (some ⟨g, 0, none⟩) n cap, .int kq (0 : Nat)]).run Try.prog w = .ok (.slice (some ⟨g, 0, none⟩) n cap) w := by
  obtain ⟨i0, hi, hz0, hz1, hz2⟩ := info_parts info8
  have hw : IntKind.i64.wrap ((0 : Nat) : Int) = ((0 : Nat) : Int) := by rw [IntKind.wrap_i64]; omega
  have hw2 : IntKind.i64.wrap 0 = 0 := by rw [IntKind.wrap_i64]; omega
  simp [Builtin.append_, run_underlying Try.underlying50, run_underlying htn, sizeOf, typeInfo, zeroValue, hi, hz0, asInt, asIntOf, hw2, h, storeCells]
theorem run_app0_room (kq kn : IntKind) (tn ty : TypeId) (htn : Try.prog.underlying tn = some (.int kn)) (g n cap k : Nat) (cur : List Value) (w : World) (hg : w.heap[g]? = some (.cells cur.toArray 5 (0, 0))) (hc : cur.length = cap) (h0 : 0 < k) (h : n + k ≤ cap) (hk : k ≤ 4294967296) :
    (Builtin.append_ #[50, tn] ty #[.slice (some ⟨g, 0, none⟩) n cap, .int kq k]).run Try.prog w = .ok (.slice (some ⟨g, 0, none⟩) (n + k) cap) (w.setRow g (splice cur n (bytesV (zer8 k))).toArray) := by
  obtain ⟨i0, hi, hz0, hz1, hz2⟩ := info_parts info8
  have hw : IntKind.i64.wrap (k : Int) = k := by rw [IntKind.wrap_i64]; omega
  have hlen : (bytesV (zer8 k)).length = k := by simp [bytesV, zer8]
  have hst := run_storeCells_at Try.prog g n 5 (bytesV (zer8 k)) 0 cur.toArray w hg (by simp [hlen, hc]; omega) (bytesV_one _)
  have hneg : ¬ ((k : Int) < 0) := by omega
  have h48i : ¬ (281474976710656 < (k : Int)) := by omega
  have hns : ¬ k = 0 := by omega
  simp [Builtin.append_, run_underlying Try.underlying50, run_underlying htn, sizeOf, typeInfo, zeroValue, hi, hz0, hz1, hz2, asInt, asIntOf, hw, hneg, h48i, hns, h, zc8, Addr.add_lit, hst, splice]
theorem app0_any (kq kn : IntKind) (tn : TypeId) (htn : Try.prog.underlying tn = some (.int kn)) (B g n cap k : Nat) (zs : List Int) (w : World) (ho : w.ownsRow B 5 1 (.slice (some ⟨g, 0, none⟩) n cap) n (bytesV zs)) (hB : B ≤ w.heap.size) (hk : n + k ≤ 4294967296) :
    ∃ g' cap' w', (∀ ty, (Builtin.append_ #[50, tn] ty #[.slice (some ⟨g, 0, none⟩) n cap, .int kq k]).run Try.prog w = .ok (.slice (some ⟨g', 0, none⟩) (n + k) cap') w') ∧ w'.ownsRow B 5 1 (.slice (some ⟨g', 0, none⟩) (n + k) cap') (n + k) (bytesV (zs ++ zer8 k)) ∧ Fm w w' (fun x => x = g) (fun x => x = g') := by
  obtain ⟨cur, h1, h2, h3, h4, h5, h6, h7⟩ := own8_cur ho
  by_cases h0 : k = 0
  · subst h0
    refine ⟨g, cap, w, fun ty => run_app0_none kq kn tn ty htn g n cap w h3, ?_, Fm.same (Below.refl _ _)⟩
    simpa [zer8] using ho
  by_cases hr : n + k ≤ cap
  · refine ⟨g, cap, _, fun ty => run_app0_room kq kn tn ty htn g n cap k cur w h2 h5 (by omega) hr (by omega), ?_, ?_⟩
    · have hs := setRow_heap w g cur.toArray (splice cur n (bytesV (zer8 k))).toArray 5 (0, 0) h2
      have hbl : (bytesV (zer8 k)).length = k := by simp [bytesV, zer8]
      refine own8_of h1 hs hr h4 (by rw [length_splice _ _ _ (by omega)]; exact h5) ?_ (by simp [zer8_len, h7])
      simp only [splice]
      have e : bytesV (zs ++ zer8 k) = bytesV zs ++ bytesV (zer8 k) := by simp [bytesV]
      rw [e, ← h6, ← List.append_assoc, List.take_append_of_le_length (by simp [hbl]; omega)]
      exact List.take_of_length_le (by simp [hbl]; omega)
    · exact ⟨rfl, rfl, rfl, by simp [World.setRow], fun x _ hx => setRow_other w g x _ (fun e => hx e), fun x hx => .inl hx⟩
  · obtain ⟨i0, hi, hz0, hz1, hz2⟩ := info_parts info8
    have hold : (Builtin.firstCells i0.size n (.slice (some ⟨g, 0, none⟩) n cap)).run Try.prog w.drew = .ok (bytesV zs).toArray w.drew := by
      have := run_firstCells_some (P := Try.prog) w.drew i0.size n ⟨g, 0, none⟩ n cap (bytesV zs) (by simp [bytesV, h7, hz1]) (fun j u hj => by
        have := ho.cells (g := g) rfl j u hj
        exact this)
      exact this
    have hrun := fun ty => Lib.run_append_grow_zeros (P := Try.prog) w 50 tn ty 5 i0 (.int .u8 0) kq kn Try.underlying50 htn hi hz0 (some ⟨g, 0, none⟩) n cap (bytesV zs) hold k (by omega) (by omega) (by omega) (by omega) (by rw [hz2]; omega) (growslice_fits (by omega) (by rw [hz2]; omega))
    have hge := grownCap_ge w (n + k) cap 5
    have hcm : grownCap w (n + k) cap 5 ≤ maxLen := grownCap_le_maxLen w (n + k) cap 5 (by unfold maxLen; omega)
    refine ⟨w.heap.size, _, _, hrun, ?_, ⟨rfl, rfl, rfl, by simp, fun x hx _ => Go.heap_alloc_old _ _ hx, fun x hx => .inr (by omega)⟩⟩
    have hh := heap_alloc_new w.drew (.cells ((bytesV zs).toArray ++ Builtin.zeroCells (Value.int .u8 0).cells k ++ Builtin.zeroCells (Value.int .u8 0).cells (grownCap w (n + k) cap 5 - (n + k))) 5)
    have hc : ((bytesV zs).toArray ++ Builtin.zeroCells (Value.int .u8 0).cells k ++ Builtin.zeroCells (Value.int .u8 0).cells (grownCap w (n + k) cap 5 - (n + k))) = (bytesV zs ++ bytesV (zer8 k) ++ bytesV (zer8 (grownCap w (n + k) cap 5 - (n + k)))).toArray := by
      rw [zc8a, zc8a]; simp
    rw [hc] at hh ⊢
    have hb1 : (bytesV zs).length = n := by simp [bytesV, h7]
    have hb2 : ∀ q, (bytesV (zer8 q)).length = q := fun q => by simp [bytesV, zer8]
    refine own8_of (by simpa using hB) hh hge hcm (by simp only [List.length_append, hb1, hb2]; omega) ?_ (by simp [zer8_len, h7])
    rw [List.take_left' (by simp only [List.length_append, hb1, hb2])]
    simp [bytesV]
end Go.Proofs.Ytpgppdkbkkljnaa
namespace Go.Proofs.Ytpgppdkbkkljnaa
open Go.RowKit
set_option maxHeartbeats 1000000
set_option maxRecDepth 100000
set_option linter.unusedVariables false

theorem info8s : (Try.prog.info? 5).map (·.size) = some 1 := by kernel_rfl
theorem mc8 (k : Nat) : madeCells (Value.int .u8 0).cells k = (bytesV (zer8 k)).toArray := by
  have hs : (Value.int .u8 0).cells.size = 1 := rfl
  apply Array.ext'
  apply List.ext_getElem
  · simp [madeCells, bytesV, zer8]
  · intro i h1 h2
    simp only [madeCells, bytesV, zer8, Array.toList_map, List.getElem_map, List.getElem_replicate, hs, Nat.mod_one]
    rfl
theorem mk8 (kd : IntKind) (k : Nat) (hk : k ≤ 4294967296) (w : World) : (Instr.makeSlice 50 (.int kd k) (.int kd k)).run Try.prog w = .ok (.slice (some ⟨w.heap.size, 0, none⟩) k k) (w.alloc (.cells (bytesV (zer8 k)).toArray 5)) := by
  obtain ⟨i0, hi, hz0, hz1, hz2⟩ := info_parts info8
  have := run_make (P := Try.prog) w 50 5 i0 (.int .u8 0) Try.underlying50 hi hz0 kd kd k k (by omega) (by omega) (by rw [hz2]; omega) (by omega)
  rw [this, hz1, Int.toNat_natCast, Nat.mul_one, mc8]
theorem splice_head (zs ys : List Int) (h : zs.length ≤ ys.length) : splice ys 0 zs = zs ++ ys.drop zs.length := by simp [splice]
theorem zer8_drop (k n : Nat) : (zer8 k).drop n = zer8 (k - n) := by simp [zer8]
theorem src8 {w : World} {B g n c : Nat} {zs : List Int} (h : w.ownsRow B 5 1 (.slice (some ⟨g, 0, none⟩) n c) n (bytesV zs)) : ∀ j v, (bytesV zs)[j]? = some v → w.cell? ((⟨g, 0, none⟩ : Addr).add j) = some v := (own_reads h).news
theorem begun_any (B m gb gl gc en : Nat) (game : List Int) (w : World) (h8 : w.cell? ⟨m, 8, none⟩ = some (.slice (some ⟨gb, 0, none⟩) gl gc)) (h3 : w.cell? ⟨m, 3, none⟩ = some (.int .u32 en)) (ho : w.ownsRow B 5 1 (.slice (some ⟨gb, 0, none⟩) gl gc) gl (bytesV game)) (hl : gl ≤ en) (hen : en ≤ 1048576) :
    Calls Try.prog 62 #[.pointer (some ⟨m, 0, none⟩)] w fun e w' => e = .returned (.slice (some ⟨w.heap.size, 0, none⟩) en en) ∧ w'.ownsRow w.heap.size 5 1 (.slice (some ⟨w.heap.size, 0, none⟩) en en) en (bytesV (game ++ zer8 (en - gl))) ∧ Below w.heap.size w w' := by
  obtain ⟨cur0, h1, h2, hgc, h4, h5, h6, h7⟩ := own8_cur ho
  have hm := mk8 .u32 en (by omega)
  have hb1 : Below w.heap.size w (w.alloc (.cells (bytesV (zer8 en)).toArray 5)) := (Below.refl _ _).alloc (Nat.le_refl _) _
  have HS := hidden (src8 (own_later ho hb1))
  have HG := hidden (heap_alloc_new w (.cells (bytesV (zer8 en)).toArray 5))
  have HB := hidden hb1
  have h8' := cellLater hb1 h8
  have hbl : (bytesV game).length = gl := by simp [bytesV, h7]
  have hzl : (bytesV (zer8 en)).length = en := by simp [bytesV, zer8]
  have HL := hidden hbl
  have HZ := hidden hzl
  have H7 := hidden h7
  clear hbl hzl ho h2 h5 h6 hb1 h7
  go_enter Try.func62, Try.ntmps62
  go_wp2_with (first | (refine wpList_copyk 1 rfl (.tmp 10) (.tmp 14) 50 50 rfl 5 Try.underlying50 info8s w.heap.size 0 en en ⟨gb, 0, none⟩ gl gc rfl rfl (bytesV (zer8 en)) 5 HG.out (bytesV game) gl (by show min _ _ = _; omega) (by rw [HL.out]; omega) HS.out (by rw [HL.out, HZ.out]; omega) (bytesV_one _) ?_; intro w1 HG1 HW1) | fail)
  go_ret
  refine ⟨rfl, ?_, HB.out.grown HW1.out (by simp) (fun j hj => by cases hj; exact Nat.le_refl _)⟩
  have hg1 := HG1.out
  rw [← bytesV_splice, splice_head _ _ (by rw [H7.out, zer8_len]; omega), H7.out, zer8_drop] at hg1
  refine own8_of (Nat.le_refl _) hg1 (Nat.le_refl _) (by unfold maxLen; omega) (by simp [bytesV, zer8, H7.out]; omega) ?_ (by simp [zer8, H7.out]; omega)
  exact List.take_of_length_le (by simp [bytesV, zer8, H7.out]; omega)
theorem run_copy0 (w : World) (ty : TypeId) (x y : Option Addr) (dl dc sl sc : Nat) (h : min sl dl = 0) :
    (Builtin.copy_ #[50, 50] ty #[.slice x dl dc, .slice y sl sc]).run Try.prog w = .ok (goInt 0) w := by
  obtain ⟨i0, hi, hz0, hz1, hz2⟩ := info_parts info8
  have hl : ∀ (a : Addr), (loadCells a 0).run Try.prog w = .ok #[] w := fun a => run_loadCells_list (P := Try.prog) w a [] (fun j v hj => by simp at hj)
  have h' : Nat.min sl dl = 0 := h
  cases x <;> cases y <;> simp [Builtin.copy_, run_underlying Try.underlying50, Builtin.lenOf, Builtin.firstCells, sizeOf, typeInfo, hi, h', hl, storeCells]
theorem step_copy0 {w : World} {ops : Array Oper} {o : Oper} {a : Act} {K : Act → World → Prop} {Q : Exit → Act → World → Prop} {E : Prop} (hgd : o.guard = none) (d s : Operand)
    (ho : o.op = .call { callee := .builtin .copy, args := #[d, s], argTypes := #[50, 50] }) (h6 : ∃ x dl dc y sl sc, a.eval d = .slice x dl dc ∧ a.eval s = .slice y sl sc ∧ min sl dl = 0)
    (h : K (a.put o.dst (goInt 0)) w) :
    if Region.wanted o (yielded ops a.tmps) = true then Oper.wp Try.prog o a w K Q else E := by
  have hw : Region.wanted o (yielded ops a.tmps) = true := by simp [Region.wanted, hgd]
  rw [if_pos hw]
  obtain ⟨x, dl, dc, y, sl, sc, hd, hs, hm⟩ := h6
  have hrun := run_copy0 w o.type x y dl dc sl sc hm
  unfold Oper.wp
  simp [execOp, ho, resolve, invoke, builtin, hd, hs, hrun, Result.andThen]
  exact h
end Go.Proofs.Ytpgppdkbkkljnaa
