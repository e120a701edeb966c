/- A heap as it lies in memory, its frame, and the two functions that search its blocks. -/
import Derived.Test.YtmebjbnglndfcaaE8d
import Derived.Deep.Cut
import Derived.Deep.CutRange
namespace Go.Proofs.Ytmebjbnglndfcaa
open Go.RowKit
set_option maxHeartbeats 1000000
set_option maxRecDepth 100000
set_option linter.unusedVariables false

/-- what a heap holds -/
structure Hs where
  most : Nat
  start : Nat
  en : Nat
  bs : List Bk
/-- a heap in memory of the call's own: its four fields, and the row of its blocks -/
def HpAt (B : Nat) (w : World) (h : Nat) (v : Value) (s : Hs) : Prop :=
  B ≤ h ∧ w.heap[h]? = some (.cells #[.int .u32 s.most, .int .u32 s.start, .int .u32 s.en, v] 94 (0, 0)) ∧ w.ownsRow B 99 2 v s.bs.length (bksV s.bs)
/-- what a call on a heap leaves alone -/
structure Fr (w w' : World) (h : Nat) (v v' : Value) : Prop where
  os : w'.os = w.os
  tape : w'.tape = w.tape
  output : w'.output = w.output
  size : w.heap.size ≤ w'.heap.size
  block : ∀ k, k < w.heap.size → k ≠ h → v.ownBlock ≠ some k → w'.heap[k]? = w.heap[k]?
  row : ∀ k, v'.ownBlock = some k → v.ownBlock = some k ∨ w.heap.size ≤ k
theorem Fr.same (w w' : World) (h : Nat) (v : Value) (hb : Below w.heap.size w w') : Fr w w' h v v := ⟨hb.os, hb.tape, hb.output, hb.size, fun k hk _ _ => hb.block k hk, fun k hk => .inl hk⟩
theorem Fr.below {B : Nat} {w w' : World} {h : Nat} {v v' : Value} {s : Hs} (hp : HpAt B w h v s) (hB : B ≤ w.heap.size) (f : Fr w w' h v v') : Below B w w' :=
  ⟨f.os, f.tape, f.output, f.size, fun k hk => f.block k (by omega) (by have := hp.1; omega) (fun e => by have := (hp.2.2.lt k e).1; omega)⟩
theorem own_slice2 {B : Nat} {w : World} {v : Value} {n : Nat} {xs : List Value} (h : w.ownsRow B 99 2 v n xs) : ∃ ao c, v = .slice ao n c := by
  rcases h.2 with ⟨h1, h2⟩ | ⟨g, cap, cur, h1, _⟩
  · exact ⟨none, 0, by rw [h1, h2]⟩
  · exact ⟨_, _, h1⟩
theorem HpAt.ne {B : Nat} {w : World} {h : Nat} {v : Value} {s : Hs} (hp : HpAt B w h v s) : v.ownBlock ≠ some h := by
  intro e
  rcases hp.2.2.2 with ⟨h1, _⟩ | ⟨g, cap, cur, h1, h2, h3, _⟩
  · rw [h1] at e; cases e
  · rw [h1] at e
    simp only [Value.ownBlock, Option.some.injEq] at e
    subst e
    rw [hp.2.1] at h3
    simp at h3
theorem own_ne_hp {B : Nat} {w : World} {u : Value} {n h : Nat} {xs : List Value} {cs : Array Value} (ho : w.ownsRow B 99 2 u n xs) (hh : w.heap[h]? = some (.cells cs 94 (0, 0))) : u.ownBlock ≠ some h := by
  intro e
  rcases ho.2 with ⟨h1, _⟩ | ⟨g, cap, cur, h1, h2, h3, _⟩
  · rw [h1] at e; cases e
  · rw [h1] at e
    simp only [Value.ownBlock, Option.some.injEq] at e
    subst e
    rw [hh] at h3
    simp at h3
/-- a row of blocks that is not the heap's stays as it is -/
theorem Fr.own {B B' : Nat} {w w' : World} {h : Nat} {v v' u : Value} {s : Hs} {n : Nat} {xs : List Value} (hp : HpAt B w h v s) (f : Fr w w' h v v') (ho : w.ownsRow B' 99 2 u n xs) (hne : ∀ k, u.ownBlock = some k → v.ownBlock ≠ some k) :
    w'.ownsRow B' 99 2 u n xs := by
  refine ⟨ho.1, ?_⟩
  rcases ho.2 with hn | ⟨g, cap, cur, h1, h2, h3, h4⟩
  · exact .inl hn
  · refine .inr ⟨g, cap, cur, h1, h2, ?_, h4⟩
    have e : u.ownBlock = some g := by rw [h1]; rfl
    rw [f.block g (Array.getElem?_eq_some_iff.1 h3).1 (fun e2 => own_ne_hp ho hp.2.1 (by rw [e, e2])) (hne g e)]
    exact h3
/-- another heap stays as it is -/
theorem Fr.other {B : Nat} {w w' : World} {h h2 : Nat} {v v' v2 : Value} {s s2 : Hs} (hp : HpAt B w h v s) (f : Fr w w' h v v') (hq : HpAt B w h2 v2 s2) (hh : h2 ≠ h) (hne : ∀ k, v2.ownBlock = some k → v.ownBlock ≠ some k) : HpAt B w' h2 v2 s2 :=
  ⟨hq.1, by rw [f.block h2 (Array.getElem?_eq_some_iff.1 hq.2.1).1 hh (fun e => own_ne_hp hp.2.2 hq.2.1 e)]; exact hq.2.1, f.own hp hq.2.2 hne⟩
theorem HpAt.later {B : Nat} {w w' : World} {h : Nat} {v : Value} {s : Hs} (hp : HpAt B w h v s) (hb : Below w.heap.size w w') : HpAt B w' h v s := by
  refine ⟨hp.1, by rw [hb.block h (Array.getElem?_eq_some_iff.1 hp.2.1).1]; exact hp.2.1, ?_⟩
  exact hp.2.2.kept (row := none) ⟨hb.os, hb.tape, hb.output, hb.size, fun k hk _ => hb.block k hk⟩ (by cases h : v.ownBlock <;> simp)
theorem HpAt.cells {B : Nat} {w : World} {h : Nat} {v : Value} {s : Hs} (hp : HpAt B w h v s) : w.cell? ⟨h, 0, none⟩ = some (.int .u32 s.most) ∧ w.cell? ⟨h, 1, none⟩ = some (.int .u32 s.start) ∧ w.cell? ⟨h, 2, none⟩ = some (.int .u32 s.en) ∧ w.cell? ⟨h, 3, none⟩ = some v ∧ (∀ j, w.frozen? ⟨h, j, none⟩ = false) := by
  have hh := hp.2.1
  refine ⟨by simp [World.cell?, hh], by simp [World.cell?, hh], by simp [World.cell?, hh], by simp [World.cell?, hh], fun j => by simp [World.frozen?, hh]⟩

theorem cellLater8 {w wx : World} {a : Addr} {v : Value} (hb : Below w.heap.size w wx) (h : w.cell? a = some v) : wx.cell? a = some v := (hb.cell (World.block_lt_of_cell? _ _ h)).trans h
/-- does a block begin there? -/
theorem isAt_any (a l x : Nat) (p : Nat) (w : World) (hc : w.cell? ⟨p, 0, none⟩ = some (.int .u32 x)) :
    Calls Try.prog 69 #[.agg #[.int .u32 a, .int .u32 l], .pointer (some ⟨p, 0, none⟩)] w fun e w' => e = .returned (.bool (decide (a = x))) ∧ Below w.heap.size w w' := by
  have hp : p < w.heap.size := block_lt_of_cell hc
  have hd : ((a : Int) == (x : Int)) = decide (a = x) := by
    by_cases h : a = x
    · simp [h]
    · have : ¬ (a : Int) = (x : Int) := by omega
      simp [h, this]
  go_enter Try.func69, Try.ntmps69
  go_wp2
  go_ret
  exact ⟨rfl, (Below.refl _ _).alloc (Nat.le_refl _) _⟩
theorem gap_yes (a l f n : Nat) (p q : Nat) (w : World) (hc : w.cell? ⟨p, 0, none⟩ = some (.int .u32 f)) (hq : w.cell? ⟨q, 0, none⟩ = some (.int .u32 n)) (hf : f ≤ a) (ha : a < 4294967296) (hn : n ≤ a - f) :
    Calls Try.prog 77 #[.agg #[.int .u32 a, .int .u32 l], .pointer (some ⟨p, 0, none⟩), .pointer (some ⟨q, 0, none⟩)] w fun e w' => e = .returned (.bool true) ∧ Below w.heap.size w w' := by
  have hp : p < w.heap.size := block_lt_of_cell hc
  have hq2 : q < w.heap.size := block_lt_of_cell hq
  have hwr : IntKind.u32.wrap ((a : Int) - (f : Int)) = (a : Int) - (f : Int) := by rw [IntKind.wrap_u32]; omega
  have c1 : (n : Int) ≤ (a : Int) - (f : Int) := by omega
  go_enter Try.func77, Try.ntmps77
  go_wp2
  go_ret
  exact ⟨rfl, (Below.refl _ _).alloc (Nat.le_refl _) _⟩
theorem grown_set (w : World) (p : Nat) (u : Value) (o : Obj) : w.grownBy ((w.setCell ⟨p, 0, none⟩ u).alloc o) (some p) :=
  ⟨rfl, rfl, rfl, by simp, fun k hk hne => by
    rw [Go.heap_alloc_old _ _ (by simpa using hk), heap_setCell_other w ⟨p, 0, none⟩ k u (fun e => hne (by rw [e]))]⟩
theorem gap_no (a l f n : Nat) (p q : Nat) (w : World) (hc : w.heap[p]? = some (.cells #[.int .u32 f] 23 (0, 0))) (hq : w.cell? ⟨q, 0, none⟩ = some (.int .u32 n)) (hf : f ≤ a) (ha : a + l < 4294967296) (hn : a - f < n) (hpq : q ≠ p) :
    Calls Try.prog 77 #[.agg #[.int .u32 a, .int .u32 l], .pointer (some ⟨p, 0, none⟩), .pointer (some ⟨q, 0, none⟩)] w fun e w' => e = .returned (.bool false) ∧ w'.heap[p]? = some (.cells #[.int .u32 ((a + l : Nat) : Int)] 23 (0, 0)) ∧ w.grownBy w' (some p) := by
  have hp : p < w.heap.size := (Array.getElem?_eq_some_iff.1 hc).1
  have hq2 : q < w.heap.size := block_lt_of_cell hq
  have hcc := cell_of_one hc
  have hcf := free_of_one hc
  have hwr : IntKind.u32.wrap ((a : Int) - (f : Int)) = (a : Int) - (f : Int) := by rw [IntKind.wrap_u32]; omega
  have hwr2 : IntKind.u32.wrap ((a : Int) + (l : Int)) = (a : Int) + (l : Int) := by rw [IntKind.wrap_u32]; omega
  have c1 : ¬ (n : Int) ≤ (a : Int) - (f : Int) := by omega
  have HC := hidden8 hc
  clear hc
  go_enter Try.func77, Try.ntmps77
  go_wp2
  go_ret
  refine ⟨rfl, ?_, grown_set w p _ _⟩
  rw [Go.heap_alloc_old _ _ (by simpa using hp)]
  exact one_setCell HC.out
/-- the place of the block that begins at x -/
def idxB (x : Nat) : List Bk → Nat
  | [] => 0
  | b :: bs => if b.a = x then 0 else idxB x bs + 1
theorem idxB_at (x : Nat) : ∀ (bs : List Bk) (k : Nat) (h : k < bs.length), (∀ j (hj : j < k), (bs[j]'(by omega)).a ≠ x) → bs[k].a = x → idxB x bs = k
  | [], k, h, _, _ => by simp at h
  | b :: bs, 0, h, _, hx => by simp at hx; simp [idxB, hx]
  | b :: bs, k + 1, h, hn, hx => by
    have h0 : b.a ≠ x := hn 0 (by omega)
    simp only [idxB, if_neg h0]
    rw [idxB_at x bs k (by simpa using h) (fun j hj => hn (j + 1) (by omega)) hx]
theorem idxB_none (x : Nat) : ∀ (bs : List Bk), (∀ j (hj : j < bs.length), bs[j].a ≠ x) → idxB x bs = bs.length
  | [], _ => rfl
  | b :: bs, hn => by
    have h0 : b.a ≠ x := hn 0 (by simp)
    simp only [idxB, if_neg h0, List.length_cons]
    rw [idxB_none x bs (fun j hj => hn (j + 1) (by simpa using hj))]
theorem own_cells {B : Nat} {w : World} {ao : Option Addr} {n c : Nat} {bs : List Bk} (h : w.ownsRow B 99 2 (.slice ao n c) n (bksV bs)) (h0 : 0 < n) : ∃ g, ao = some ⟨g, 0, none⟩ ∧ ∀ i (h : i < bs.length), w.cell? ⟨g, i * 2, none⟩ = some (.int .u32 bs[i].a) ∧ w.cell? ⟨g, i * 2 + 1, none⟩ = some (.int .u32 bs[i].l) := by
  obtain ⟨h1, h2, h3, h4, h5⟩ := own_bks h
  obtain ⟨g, cur, rfl, _⟩ := own_cur h h0
  obtain ⟨b, off, e, hc⟩ := h5 h0
  simp only [Option.some.injEq, Addr.mk.injEq, and_true] at e
  obtain ⟨rfl, rfl⟩ := e
  refine ⟨_, rfl, fun i hi => ?_⟩
  have := bksV_at bs i hi
  exact ⟨by simpa using hc _ _ this.1, by simpa using hc _ _ this.2⟩
theorem search_free (B h : Nat) (v : Value) (s : Hs) (p x : Nat) (w : World) (hp : HpAt B w h v s) (hc : w.cell? ⟨p, 0, none⟩ = some (.int .u32 x)) (hl : s.bs.length ≤ 4096) :
    Calls Try.prog 68 #[.pointer (some ⟨h, 0, none⟩), .func (.func 69) #[] #[.pointer (some ⟨p, 0, none⟩)]] w fun e w' => e = .returned (.int .i64 (idxB x s.bs : Nat)) ∧ Below w.heap.size w w' := by
  obtain ⟨ao, c, rfl⟩ := own_slice2 hp.2.2
  have hpc := hp.cells
  have h3 := hpc.2.2.2.1
  have hnc : s.bs.length ≤ c := (own_bks hp.2.2).2.1
  have HP := hidden8 hp
  have HC := hidden8 hc
  clear hpc hp hc
  generalize hbs : s.bs = bs at *
  generalize hn : bs.length = n at *
  have HN := hidden8 hn
  have HBS := hidden8 hbs
  clear hn hbs
  have HNO : Hid (∀ j (hj : j < 0), (bs[j]'(by omega)).a ≠ x) := fun j hj => by omega
  go_enter Try.func68, Try.ntmps68
  go_wp2
  go_loopw [12] (fun i wr => ∃ k : Nat, k ≤ n ∧ i = .int .i64 k ∧ Below w.heap.size w wr ∧ Hid (∀ j (hj : j < k) (hl : j < bs.length), bs[j].a ≠ x)) (fun i _ => n - (intOf i).toNat)
  case atStart => exact ⟨0, by omega, rfl, Below.refl _ _, fun j hj => by omega⟩
  case round =>
    obtain ⟨k, hk, rfl, hb, HK⟩ := hrel
    by_cases hkn : k < n
    · have hown := HP.out.2.2
      rw [HBS.out, HN.out] at hown
      obtain ⟨g, rfl, hcells⟩ := own_cells hown (by omega)
      have hkl : k < bs.length := by rw [HN.out]; exact hkn
      have ha := cellLater8 hb (hcells k hkl).1
      have hl' := cellLater8 hb (hcells k hkl).2
      have hcx := cellLater8 hb HC.out
      clear hcells hown
      have hcx2 := fun o => cellLater8 (hb.alloc hb.size o) HC.out
      generalize hA : bs[k].a = a at *
      generalize bs[k].l = l at *
      have HA := hidden8 hA
      clear hA
      have hsz := hb.size
      have hk2 : (k : Int) < (n : Int) := by omega
      by_cases hx : a = x
      · have HX := hidden8 hx
        have hdx : decide (a = x) = true := by simp [hx]
        have hc9 := fun w9 (h : w9.cell? ⟨p, 0, none⟩ = some (.int .u32 x)) => isAt_any a l x p w9 h
        rw [hdx] at hc9
        clear hx hdx
        go_wp2_with (go_at_call 69; refine (hc9 _ (hcx2 _)).mono ?_; rintro e w9 ⟨rfl, hb9⟩)
        go_ret
        have hix : idxB x bs = k := idxB_at x bs k hkl (fun j hj => HK.out j hj (by omega)) (by rw [HA.out, HX.out])
        rw [hix]
        exact ⟨rfl, (hb.alloc hb.size _).trans (hb9.mono (by simp; omega))⟩
      · have HX := hidden8 hx
        have hdx : decide (a = x) = false := by simp [hx]
        have hc9 := fun w9 (h : w9.cell? ⟨p, 0, none⟩ = some (.int .u32 x)) => isAt_any a l x p w9 h
        rw [hdx] at hc9
        clear hx hdx
        go_wp2_with (go_at_call 69; refine (hc9 _ (hcx2 _)).mono ?_; rintro e w9 ⟨rfl, hb9⟩)
        go_roundw
        case rel =>
          refine ⟨k + 1, by omega, int_eq8 (by omega), (hb.alloc hb.size _).trans (hb9.mono (by simp; omega)), fun j hj hl => ?_⟩
          by_cases e : j = k
          · subst e; rw [HA.out]; exact HX.out
          · exact HK.out j (by omega) hl
        case measure => simp [intOf]; omega
    · obtain rfl : k = n := by omega
      have h3' := cellLater8 hb h3
      go_wp2
      go_ret
      have hix : idxB x bs = k := by rw [idxB_none x bs (fun j hj => HK.out j (by rw [← HN.out]; exact hj) hj), HN.out]
      rw [hix]
      exact ⟨rfl, hb⟩
end Go.Proofs.Ytmebjbnglndfcaa
