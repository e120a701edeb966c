/- What Malloc and Free leave of a heap: the stores into its fields, and the row of its blocks. -/
import Derived.Test.YtmebjbnglndfcaaE8g
namespace Go.Proofs.Ytmebjbnglndfcaa
open Go.RowKit
set_option maxHeartbeats 1000000
set_option maxRecDepth 100000
set_option linter.unusedVariables false

theorem set_fld {w : World} {h : Nat} {cs : Array Value} (hh : w.heap[h]? = some (.cells cs 94 (0, 0))) (i : Nat) (u : Value) : (w.setCell ⟨h, i, none⟩ u).heap[h]? = some (.cells (cs.setIfInBounds i u) 94 (0, 0)) := by
  have := setCell_eq_setRow w h i cs 94 (0, 0) u hh
  rw [this]
  exact setRow_heap w h cs _ _ _ hh
theorem hp_set2 {B : Nat} {w : World} {h : Nat} {v : Value} {s : Hs} (hp : HpAt B w h v s) (x y : Nat) : HpAt B ((w.setCell ⟨h, 1, none⟩ (.int .u32 x)).setCell ⟨h, 2, none⟩ (.int .u32 y)) h v ⟨s.most, x, y, s.bs⟩ := by
  have h1 := set_fld hp.2.1 1 (.int .u32 x)
  have h2 := set_fld h1 2 (.int .u32 y)
  refine ⟨hp.1, ?_, ?_⟩
  · rw [h2]; simp
  · exact ownsRow_setCell_other (ownsRow_setCell_other hp.2.2 (by simpa using hp.ne) _) (by simpa using hp.ne) _
theorem hp_set3 {B : Nat} {w : World} {h : Nat} {v v' : Value} {m x y : Nat} {bs' : List Bk} (hB : B ≤ h) (hh : w.heap[h]? = some (.cells #[.int .u32 m, .int .u32 x, .int .u32 y, v] 94 (0, 0))) (ho : w.ownsRow B 99 2 v' bs'.length (bksV bs')) : HpAt B (w.setCell ⟨h, 3, none⟩ v') h v' ⟨m, x, y, bs'⟩ := by
  refine ⟨hB, ?_, ?_⟩
  · rw [set_fld hh 3 v']; simp
  · exact ownsRow_setCell_other ho (by simpa using own_ne_hp ho hh) _
theorem fr_set {w w' : World} {h : Nat} {v v' : Value} (f : Fr w w' h v v') (i : Nat) (u : Value) : Fr w (w'.setCell ⟨h, i, none⟩ u) h v v' :=
  ⟨f.os, f.tape, f.output, by have := f.size; simpa using this, fun k hk hne hv => by rw [heap_setCell_other _ _ _ _ (by simpa using hne)]; exact f.block k hk hne hv, f.row⟩
theorem Fr.trans {w w1 w2 : World} {h : Nat} {v v1 v2 : Value} (f : Fr w w1 h v v1) (g : Fr w1 w2 h v1 v2) : Fr w w2 h v v2 :=
  ⟨g.os.trans f.os, g.tape.trans f.tape, g.output.trans f.output, Nat.le_trans f.size g.size, fun k hk hne hv => by
    rw [g.block k (by have := f.size; omega) hne (fun e => by rcases f.row k e with h' | h'; · exact hv h'
                                                              · omega), f.block k hk hne hv],
   fun k hk => by
    rcases g.row k hk with h' | h'
    · exact f.row k h'
    · exact .inr (by have := f.size; omega)⟩
theorem fr_grown {w w' : World} {h : Nat} {v v' : Value} (g : w.grownBy w' v.ownBlock) (hr : ∀ k, v'.ownBlock = some k → v.ownBlock = some k ∨ w.heap.size ≤ k) : Fr w w' h v v' :=
  ⟨g.os, g.tape, g.output, g.size, fun k hk _ hv => g.block k hk (fun e => hv e.symm), hr⟩
theorem insert_hp (B h : Nat) (v : Value) (s : Hs) (w w1 : World) (hp : HpAt B w h v s) (hb : Below w.heap.size w w1) (hB : B ≤ w.heap.size) (x y i a n : Nat) (hi : i ≤ s.bs.length) (hl : s.bs.length ≤ 4096) :
    Calls Try.prog 67 #[v, .int .i64 i, .slice (some ⟨w1.heap.size, 0, none⟩) 1 1] (((w1.setCell ⟨h, 1, none⟩ (.int .u32 x)).setCell ⟨h, 2, none⟩ (.int .u32 y)).alloc (.cells #[.int .u32 a, .int .u32 n] 99))
      fun r w4 => ∃ ao' c', r = .returned (.slice ao' (s.bs.length + 1) c') ∧ w4.cell? ⟨h, 3, none⟩ = some v ∧ w4.frozen? ⟨h, 3, none⟩ = false ∧
        Hid (HpAt B (w4.setCell ⟨h, 3, none⟩ (.slice ao' (s.bs.length + 1) c')) h (.slice ao' (s.bs.length + 1) c') ⟨s.most, x, y, s.bs.take i ++ ⟨a, n⟩ :: s.bs.drop i⟩ ∧ Fr w (w4.setCell ⟨h, 3, none⟩ (.slice ao' (s.bs.length + 1) c')) h v (.slice ao' (s.bs.length + 1) c')) := by
  have hp1 := hp.later hb
  have hp2 := hp_set2 hp1 x y
  have f2 : Fr w ((w1.setCell ⟨h, 1, none⟩ (.int .u32 x)).setCell ⟨h, 2, none⟩ (.int .u32 y)) h v v := fr_set (fr_set (Fr.same w w1 h v hb) 1 _) 2 _
  have hsz : ((w1.setCell ⟨h, 1, none⟩ (.int .u32 x)).setCell ⟨h, 2, none⟩ (.int .u32 y)).heap.size = w1.heap.size := by simp
  generalize ((w1.setCell ⟨h, 1, none⟩ (.int .u32 x)).setCell ⟨h, 2, none⟩ (.int .u32 y)) = w2 at *
  have hba : Below w2.heap.size w2 (w2.alloc (.cells #[.int .u32 a, .int .u32 n] 99)) := (Below.refl _ _).alloc (Nat.le_refl _) _
  have hp3 := hp2.later hba
  have f3 : Fr w (w2.alloc (.cells #[.int .u32 a, .int .u32 n] 99)) h v v := f2.trans (Fr.same _ _ h v hba)
  have hv := heap_alloc_new w2 (.cells #[.int .u32 a, .int .u32 n] 99)
  rw [hsz] at hv
  have hne : v.ownBlock ≠ some w1.heap.size := by
    intro e
    have := (hp2.2.2.lt _ e).2
    omega
  obtain ⟨ao, c, rfl⟩ := own_slice2 hp.2.2
  have hB3 : B ≤ (w2.alloc (.cells #[.int .u32 a, .int .u32 n] 99)).heap.size := by have := f3.size; omega
  generalize (w2.alloc (.cells #[.int .u32 a, .int .u32 n] 99)) = w3 at *
  refine (insert_any B ao s.bs.length c i s.bs ⟨a, n⟩ w1.heap.size w3 hp3.2.2 hB3 hl hi hv hne).mono ?_
  rintro e w4 ⟨ao', c', rfl, ho, hg, hr⟩
  have hh4 : w4.heap[h]? = some (.cells #[.int .u32 s.most, .int .u32 x, .int .u32 y, .slice ao s.bs.length c] 94 (0, 0)) := by
    rw [hg.block h (Array.getElem?_eq_some_iff.1 hp3.2.1).1 (fun e => hp3.ne e.symm)]; exact hp3.2.1
  have hlen : (s.bs.take i ++ (⟨a, n⟩ : Bk) :: s.bs.drop i).length = s.bs.length + 1 := by simp; omega
  refine ⟨ao', c', rfl, by simp [World.cell?, hh4], by simp [World.frozen?, hh4], hidden8 ⟨hp_set3 hp.1 hh4 (by rw [hlen]; exact ho), fr_set (f3.trans (fr_grown hg hr)) 3 _⟩⟩
theorem delete_hp (B h : Nat) (v : Value) (s : Hs) (w w1 : World) (hp : HpAt B w h v s) (hb : Below w.heap.size w w1) (i : Nat) (hi : i < s.bs.length) (hl : s.bs.length ≤ 4096) :
    Calls Try.prog 70 #[v, .int .i64 i, .int .i64 ((i : Int) + 1)] w1
      fun r w4 => ∃ ao' c', r = .returned (.slice ao' (s.bs.length - 1) c') ∧ w4.cell? ⟨h, 3, none⟩ = some v ∧ w4.frozen? ⟨h, 3, none⟩ = false ∧
        HpAt B (w4.setCell ⟨h, 3, none⟩ (.slice ao' (s.bs.length - 1) c')) h (.slice ao' (s.bs.length - 1) c') ⟨s.most, s.start, s.en, s.bs.take i ++ s.bs.drop (i + 1)⟩ ∧ Fr w (w4.setCell ⟨h, 3, none⟩ (.slice ao' (s.bs.length - 1) c')) h v (.slice ao' (s.bs.length - 1) c') := by
  have hp1 := hp.later hb
  have f1 := Fr.same w w1 h v hb
  obtain ⟨ao, c, rfl⟩ := own_slice2 hp.2.2
  refine (delete_any B ao s.bs.length c i s.bs w1 hp1.2.2 hl hi).mono ?_
  rintro e w4 ⟨rfl, ho, hg⟩
  have hh4 : w4.heap[h]? = some (.cells #[.int .u32 s.most, .int .u32 s.start, .int .u32 s.en, .slice ao s.bs.length c] 94 (0, 0)) := by
    rw [hg.block h (Array.getElem?_eq_some_iff.1 hp1.2.1).1 (fun e => hp1.ne e.symm)]; exact hp1.2.1
  have hlen : (s.bs.take i ++ s.bs.drop (i + 1)).length = s.bs.length - 1 := by simp; omega
  refine ⟨ao, c, rfl, by simp [World.cell?, hh4], by simp [World.frozen?, hh4], hp_set3 hp.1 hh4 (by rw [hlen]; exact ho), fr_set (f1.trans (fr_grown hg (fun k hk => .inl ?_))) 3 _⟩
  cases ao with
  | none => cases hk
  | some a => exact hk
/-- a heap whose blocks are in order, between its start and its end -/
structure OkS (s : Hs) : Prop where
  most : s.most < 4294967296
  len : s.bs.length ≤ 4096
  nil : s.bs.length = 0 → s.start = 0 ∧ s.en = 0
  some : 0 < s.bs.length → s.start ≠ 0 ∧ s.start % 256 = 0 ∧ s.en % 256 = 0 ∧ s.en ≤ s.most ∧ Chain s.en s.start s.bs
def stR (s : Hs) (x : Nat) : Nat := if s.bs.length = 0 then x else s.start
def enR (s : Hs) (x : Nat) : Nat := if s.bs.length = 0 then x else s.en
def insB (s : Hs) (n x : Nat) : List Bk := s.bs.take (place n (stR s x) s.bs).1 ++ ⟨(place n (stR s x) s.bs).2, n⟩ :: s.bs.drop (place n (stR s x) s.bs).1
/-- what Malloc does: the address and the heap behind it, or none -/
def mallocR (s : Hs) (n x : Nat) : Option (Nat × Hs) :=
  if n = 0 ∨ 4096 ≤ s.bs.length then none
  else if s.bs.length = 0 ∧ begR s.most x = false then none
  else if (place n (stR s x) s.bs).2 + n ≤ enR s x then some ((place n (stR s x) s.bs).2, ⟨s.most, stR s x, enR s x, insB s n x⟩)
  else if s.most < up ((place n (stR s x) s.bs).2 + n) then none
  else some ((place n (stR s x) s.bs).2, ⟨s.most, stR s x, up ((place n (stR s x) s.bs).2 + n), insB s n x⟩)
def mallocA (s : Hs) (n x : Nat) : Nat := match mallocR s n x with | none => 0 | some r => r.1
def mallocB (s : Hs) (n x : Nat) : Bool := (mallocR s n x).isSome
def mallocS (s : Hs) (n x : Nat) : Hs := match mallocR s n x with | none => s | some r => r.2
/-- what Free does -/
def freeE (s : Hs) (x : Nat) : Nat := if idxB x s.bs = s.bs.length then 5 else 0
def freeS (s : Hs) (x : Nat) : Hs :=
  if idxB x s.bs = s.bs.length then s
  else if s.bs.length = 1 then ⟨s.most, 0, 0, s.bs.take (idxB x s.bs) ++ s.bs.drop (idxB x s.bs + 1)⟩
  else ⟨s.most, s.start, s.en, s.bs.take (idxB x s.bs) ++ s.bs.drop (idxB x s.bs + 1)⟩
end Go.Proofs.Ytmebjbnglndfcaa
