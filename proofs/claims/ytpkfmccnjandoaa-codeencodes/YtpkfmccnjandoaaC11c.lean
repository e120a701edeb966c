/- Contracts of package code's rowOf, Signature, Name and Op: what the table says. -/
import Derived.Test.YtpkfmccnjandoaaC11b
import Derived.Test.YtpkfmccnjandoaaC11s
namespace Go.Proofs.Ytpkfmccnjandoaa
open Go.RowKit
set_option maxHeartbeats 1000000
set_option maxRecDepth 100000
set_option linter.unusedVariables false

abbrev Rw := Int × List UInt8 × List UInt8
def r0 : Rw := (0, [], [])
/-- the first row of a list of which p holds -/
theorem find_at (p : Rw → Bool) (l : List Rw) (k : Nat) (hk : k < l.length) (h : ∀ j, j < k → p (l.getD j r0) = false) (hp : p (l.getD k r0) = true) : l.find? p = some (l.getD k r0) := by
  induction l generalizing k with
  | nil => simp at hk
  | cons r l ih =>
    cases k with
    | zero => rw [List.getD_cons_zero] at hp ⊢; rw [List.find?_cons_of_pos hp]
    | succ k =>
      have h0 := h 0 (by omega)
      rw [List.getD_cons_zero] at h0
      rw [List.find?_cons_of_neg (by rw [h0]; simp), List.getD_cons_succ]
      refine ih k (by simpa using hk) (fun j hj => ?_) (by rw [List.getD_cons_succ] at hp; exact hp)
      have := h (j + 1) (by omega)
      rw [List.getD_cons_succ] at this
      exact this
theorem find_no (p : Rw → Bool) (l : List Rw) (h : ∀ j, j < l.length → p (l.getD j r0) = false) : l.find? p = none := by
  rw [List.find?_eq_none]
  intro x hx
  obtain ⟨j, hj, rfl⟩ := List.getElem_of_mem hx
  have := h j hj
  rw [List.getD_eq_getElem?_getD, List.getElem?_eq_getElem hj] at this
  simpa using this
def opR (op : Int) : Option Rw := tab.find? fun r => r.1 == op
def nmR (s : List UInt8) : Option Rw := tab.find? fun r => r.2.1 == s
/-- the row of a number; its letters, its name -/
def rwV (o : Option Rw) : Rw := o.getD r0
theorem kins_b (w : World) : Calls Try.prog 57 #[] w fun e w' => e = .returned (.agg tabC) ∧ Below w.heap.size w w' := (kins_any w).mono (fun e w' hh => ⟨hh.1, by rw [hh.2]; exact (Below.refl _ _).alloc (Nat.le_refl _) _⟩)
theorem row_box {wr : World} {B : Nat} {x : Int} {S1 S2 : ByteArray} (h : wr.heap[B]? = some (.cells #[.int .u32 x, .string S1, .string S2] 78 (0, 0))) : wr.cell? ⟨B, 0, none⟩ = some (.int .u32 x) ∧ wr.cell? ⟨B, 1, none⟩ = some (.string S1) ∧ wr.cell? ⟨B, 2, none⟩ = some (.string S2) ∧ wr.frozen? ⟨B, 0, none⟩ = false ∧ wr.frozen? ⟨B, 1, none⟩ = false ∧ wr.frozen? ⟨B, 2, none⟩ = false := by
  simp [World.cell?, World.frozen?, h]
theorem heap_alloc_old (w : World) (o : Obj) {k : Nat} (h : k < w.heap.size) : (w.alloc o).heap[k]? = w.heap[k]? := by
  show (w.heap.push o)[k]? = w.heap[k]?
  rw [Array.getElem?_push, if_neg (by omega)]
theorem row_set {wr : World} {B : Nat} {y : Int} {T1 T2 : ByteArray} (h : wr.heap[B]? = some (.cells #[.int .u32 y, .string T1, .string T2] 78 (0, 0))) (x : Int) (S1 S2 : ByteArray) (o : Obj) : ((((wr.setCell ⟨B, 0, none⟩ (.int .u32 x)).setCell ⟨B, 1, none⟩ (.string S1)).setCell ⟨B, 2, none⟩ (.string S2)).alloc o).heap[B]? = some (.cells #[.int .u32 x, .string S1, .string S2] 78 (0, 0)) := by
  have hsz : B < wr.heap.size := (Array.getElem?_eq_some_iff.1 h).1
  rw [heap_alloc_old _ _ (by simpa using hsz)]
  simp [World.setCell, Array.getElem?_modify, h]
theorem krow_any (op : Int) (w : World) :
    Calls Try.prog 43 #[.int .u32 op] w fun e w' => e = .returned (.tuple #[.agg #[.int .u32 (rwV (opR op)).1, strV (rwV (opR op)).2.1, strV (rwV (opR op)).2.2], .bool (opR op).isSome]) ∧ Below w.heap.size w w' := by
  have HX := hidden run_index_tab
  have HI := hidden fun wx => kins_b wx
  have HF := hidden (find_at (fun r => r.1 == op) tab)
  have HN := hidden (find_no (fun r => r.1 == op) tab)
  generalize hT : tabC = T at *
  clear hT
  go_enter Try.func43, Try.ntmps43
  go_wp2_with (go_at_call 57; refine (HI.out _).mono ?_; rintro e w1 ⟨rfl, hb1⟩)
  have HB1 := hidden (((Below.refl w.heap.size w).alloc (Nat.le_refl _) (.cells #[.int .u32 0, strV [], strV []] 78)).trans (hb1.mono (by rw [World.size_alloc]; omega)))
  have HH1 : Hid (w1.heap[w.heap.size]? = some (.cells #[.int .u32 0, strV [], strV []] 78 (0, 0))) := by
    show w1.heap[w.heap.size]? = _
    rw [show w1.heap[w.heap.size]? = _ from hb1.block w.heap.size (by rw [World.size_alloc]; omega)]
    exact heap_alloc_new _ _
  clear hb1
  go_loopw [7] (fun i wr => ∃ k : Nat, k ≤ 130 ∧ i = .int .i64 k ∧ Hid (∀ j, j < k → ((tab.getD j r0).1 == op) = false) ∧ Hid (Below w.heap.size w wr) ∧ Hid (wr.heap[w.heap.size]? = some (.cells #[.int .u32 0, strV [], strV []] 78 (0, 0)))) (fun i _ => 130 - (intOf i).toNat)
  case atStart => exact ⟨0, by omega, rfl, fun j hj => by omega, HB1, HH1⟩
  case round =>
    clear HB1 HH1
    obtain ⟨k, hk, rfl, HJ, HB, HH⟩ := hrel
    have hsz : w.heap.size < wr.heap.size := (Array.getElem?_eq_some_iff.1 HH.out).1
    have hne : ¬ wr.heap.size = w.heap.size := by omega
    have hne' : ¬ w.heap.size = wr.heap.size := by omega
    obtain ⟨c0, c1, c2, f0, f1, f2⟩ := row_box HH.out
    by_cases hlt : k < 130
    · have hx := HX.out k hlt
      have HF1 := hidden (HF.out k (by rw [tab_len]; exact hlt) HJ.out)
      have HJ1 : Hid (((tab.getD k r0).1 == op) = false → ∀ j, j < k + 1 → ((tab.getD j r0).1 == op) = false) := fun h j hj => by
        by_cases e : j < k
        · exact HJ.out j e
        · obtain rfl : j = k := by omega
          exact h
      change ∀ wx, _ = Result.ok (Value.agg #[.int .u32 (tab.getD k r0).1, .string ⟨(tab.getD k r0).2.1.toArray⟩, .string ⟨(tab.getD k r0).2.2.toArray⟩]) wx at hx
      generalize tab.getD k r0 = r at *
      have d1 : (k : Int) < 130 := by omega
      have hw : IntKind.i64.wrap ((k : Int) + 1) = (k : Int) + 1 := by rw [IntKind.wrap_i64]; omega
      by_cases he : r.1 = op
      · have q : (r.1 == op) = true := by simpa using he
        have HR := hidden (HF1.out q)
        obtain ⟨x, S1, S2⟩ := r
        simp only at hx q he
        subst he
        clear HF1 HJ1 q
        have HR1 : Hid (opR x = some (x, S1, S2)) := HR.out
        clear HR HF HN HX HI
        go_wp2
        obtain ⟨k0, k1, k2, _, _, _⟩ := row_box (row_set HH.out x ⟨S1.toArray⟩ ⟨S2.toArray⟩ (Obj.cells #[.int .u32 x, strV S1, strV S2] 78))
        refine bodyPost_ret (v := .tuple #[.agg #[.int .u32 x, strV S1, strV S2], .bool true]) (by simp [results, Try.results43, go_sem, k0, k1, k2]) rfl ⟨by rw [HR1.out]; rfl, ?_⟩
        have hb := HB.out
        have hle := Nat.le_of_lt hsz
        go_grown
      · have q : (r.1 == op) = false := by simpa using he
        have HJ2 := hidden (HJ1.out q)
        obtain ⟨x, S1, S2⟩ := r
        simp only at hx q he
        clear HF1 HJ1
        go_wp2
        go_roundw
        case rel => exact ⟨k + 1, by omega, int_eq (by omega), HJ2, HB.out.alloc (Nat.le_of_lt hsz) _, (heap_alloc_old _ _ hsz).trans HH.out⟩
        case measure => simp [intOf]; omega
    · obtain rfl : k = 130 := by omega
      have HR := hidden (HN.out (by rw [tab_len]; exact HJ.out))
      have HR1 : Hid (opR op = none) := HR.out
      clear HR HF HN HX HI
      have d1 : ¬ ((130 : Nat) : Int) < 130 := by omega
      go_wp2
      refine bodyPost_ret (v := .tuple #[.agg #[.int .u32 0, strV [], strV []], .bool false]) (by simp [results, Try.results43, go_sem, c0, c1, c2]) rfl ⟨by rw [HR1.out]; rfl, ?_⟩
      have hb := HB.out
      go_grown
theorem krow_h (op : Int) (x : Int) (S1 S2 : ByteArray) (b : Bool) (h : (rwV (opR op)).1 = x ∧ (⟨(rwV (opR op)).2.1.toArray⟩ : ByteArray) = S1 ∧ (⟨(rwV (opR op)).2.2.toArray⟩ : ByteArray) = S2 ∧ (opR op).isSome = b) (w : World) :
    Calls Try.prog 43 #[.int .u32 op] w fun e w' => e = .returned (.tuple #[.agg #[.int .u32 x, .string S1, .string S2], .bool b]) ∧ Below w.heap.size w w' := by
  obtain ⟨rfl, rfl, rfl, rfl⟩ := h
  exact krow_any op w
theorem ksig_any (op : Int) (w : World) :
    Calls Try.prog 26 #[.int .u32 op] w fun e w' => e = .returned (.tuple #[strV (rwV (opR op)).2.2, .bool (opR op).isSome]) ∧ Below w.heap.size w w' := by
  have HR := hidden (krow_h op _ _ _ _ ⟨rfl, rfl, rfl, rfl⟩)
  show Calls _ _ _ _ fun e w' => e = .returned (.tuple #[.string ⟨(rwV (opR op)).2.2.toArray⟩, _]) ∧ _
  generalize (rwV (opR op)).1 = x at *
  generalize (⟨(rwV (opR op)).2.1.toArray⟩ : ByteArray) = S1 at *
  generalize (⟨(rwV (opR op)).2.2.toArray⟩ : ByteArray) = S2 at *
  generalize (opR op).isSome = b at *
  go_enter Try.func26, Try.ntmps26
  go_wp2_with (go_at_call 43; refine (HR.out _).mono ?_; rintro e w1 ⟨rfl, hb1⟩)
  go_ret2
  exact ⟨rfl, hb1.alloc hb1.size _⟩
theorem kname_any (op : Int) (w : World) :
    Calls Try.prog 24 #[.int .u32 op] w fun e w' => e = .returned (strV (rwV (opR op)).2.1) ∧ Below w.heap.size w w' := by
  have HR := hidden (krow_h op _ _ _ _ ⟨rfl, rfl, rfl, rfl⟩)
  show Calls _ _ _ _ fun e w' => e = .returned (.string ⟨(rwV (opR op)).2.1.toArray⟩) ∧ _
  generalize (rwV (opR op)).1 = x at *
  generalize (⟨(rwV (opR op)).2.1.toArray⟩ : ByteArray) = S1 at *
  generalize (⟨(rwV (opR op)).2.2.toArray⟩ : ByteArray) = S2 at *
  generalize (opR op).isSome = b at *
  go_enter Try.func24, Try.ntmps24
  go_wp2_with (go_at_call 43; refine (HR.out _).mono ?_; rintro e w1 ⟨rfl, hb1⟩)
  go_ret
  exact ⟨rfl, hb1.alloc hb1.size _⟩
end Go.Proofs.Ytpkfmccnjandoaa
