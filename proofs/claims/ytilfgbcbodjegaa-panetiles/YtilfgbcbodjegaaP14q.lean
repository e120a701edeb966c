/- Layer 14, the program: windows that are gone are dropped. -/
import Derived.Test.YtilfgbcbodjegaaP14p
import Derived.Sort.OwnSortedInts
namespace Go.Proofs.Ytilfgbcbodjegaa
open Go.RowKit
set_option maxHeartbeats 1000000
set_option maxRecDepth 100000
set_option linter.unusedVariables false

theorem sort_own {base g c : Nat} {zs : List Int} {w : World} (h : w.ownsRow base 3 1 (.slice (some ⟨g, 0, none⟩) zs.length c) zs.length (intsV zs)) (hn : zs.length ≤ 1000) :
    Calls Try.prog 43 #[.slice (some ⟨g, 0, none⟩) zs.length c] w fun e w' => e = .returned (.tuple #[]) ∧ Hid (w'.ownsRow base 3 1 (.slice (some ⟨g, 0, none⟩) zs.length c) zs.length (intsV (zs.mergeSort fun x y => decide (x ≤ y)))) ∧ Hid (w.grownBy w' (some g)) := by
  rcases h.2 with ⟨h1, _⟩ | ⟨g', cap, cur, h1, h2, h3, h4, h5, h6, h7⟩
  · cases h1
  · simp only [Value.slice.injEq, Option.some.injEq, Addr.mk.injEq, and_true] at h1
    obtain ⟨rfl, _, rfl⟩ := h1
    have hH : Go.Sort.Holds (Value.int .i64) w g 0 zs.toArray := holds_of_blockI h3 (by rw [← Nat.mul_one zs.length]; exact h7)
    refine (Try.slices_Sort_int g 0 c zs w hH (Array.getElem?_eq_some_iff.1 h3).1 (by omega)).mono ?_
    rintro e w' ⟨rfl, n, os, rfl⟩
    exact ⟨rfl, hidden (ownsRow_sortedI (List.length_mergeSort zs) h2 h3 h4 h5 h6), hidden (grownBy_sortedI _)⟩
/-- the row of those that are gone, and the functions over it -/
structure GnAt (w : World) (fc gb gg n c : Nat) (gs : List Int) : Prop where
  f : w.heap[fc]? = some (.cells #[.func (.func 67) #[] #[.pointer (some ⟨gb, 0, none⟩)]] 93 (0, 0))
  b : w.heap[gb]? = some (.cells #[.slice (some ⟨gg, 0, none⟩) n c] 33 (0, 0))
  r : w.ownsRow 0 3 1 (.slice (some ⟨gg, 0, none⟩) n c) n (intsV gs)
  ln : gs.length = n
  few : n ≤ 1000
  so : gs.Pairwise (· ≤ ·)
theorem GnAt.later {w w' : World} {fc gb gg n c : Nat} {gs : List Int} (h : GnAt w fc gb gg n c gs) (hb : Below w.heap.size w w') : GnAt w' fc gb gg n c gs :=
  ⟨by rw [hb.block fc (Array.getElem?_eq_some_iff.1 h.f).1]; exact h.f, by rw [hb.block gb (Array.getElem?_eq_some_iff.1 h.b).1]; exact h.b, own_later h.r hb, h.ln, h.few, h.so⟩
theorem drop1_any {w : World} {fc gb gg n c : Nat} {gs : List Int} (h : GnAt w fc gb gg n c gs) (x : Int) :
    Calls Try.prog 67 #[.int .i64 x, .pointer (some ⟨gb, 0, none⟩)] w fun e w' => e = .returned (.bool (gs.contains x)) ∧ Below w.heap.size w w' := by
  have hc : w.cell? ⟨gb, 0, none⟩ = some (.slice (some ⟨gg, 0, none⟩) n c) := by simp [World.cell?, h.b]
  have hcells : ∀ j, j < gs.length → w.cell? ⟨gg, 0 + j, none⟩ = some (.int .i64 (gs.getD j 0)) := fun j hj => by
    have := h.r.cells (g := gg) rfl j (.int .i64 (gs.getD j 0)) (by simp [intsV, List.getD_eq_getElem?_getD, hj])
    rwa [Addr.add_lit] at this
  have ht : gs.take n = gs := List.take_of_length_le (by rw [h.ln]; exact Nat.le_refl _)
  have HS := hidden (Try.slices_BinarySearch_int gg 0 n c gs x w (by rw [h.ln]; exact Nat.le_refl _) (by have := h.few; omega) hcells (by rw [ht]; exact h.so))
  rw [ht] at HS
  generalize gs.contains x = D at *
  generalize (gs.countP (· < x)) = CN at *
  clear h hcells ht
  go_enter Try.func67, Try.ntmps67
  go_wp2_with (first | (go_at_call 68; refine HS.out.mono ?_; rintro e w1 ⟨rfl, q, eq⟩; have HB1 := hidden (show Below w.heap.size w w1 by rw [eq]; exact below_drewN (Below.refl _ _) q); clear eq) | fail)
  go_ret
  exact ⟨rfl, HB1.out⟩
theorem drop2_any {w : World} {fc gb gg n c : Nat} {gs : List Int} (h : GnAt w fc gb gg n c gs) (d : Wd) :
    Calls Try.prog 70 #[.agg #[.int .i64 d.n, .int .i64 d.k, .int .i64 d.p, .int .i64 d.a, .int .i64 d.b, .int .i64 d.m, .int .u32 d.s, .int .i64 d.key], .pointer (some ⟨fc, 0, none⟩)] w fun e w' => e = .returned (.bool (gs.contains d.n)) ∧ Hid (Below w.heap.size w w') := by
  have hb : Below w.heap.size w (w.alloc (.cells #[.int .i64 d.n, .int .i64 d.k, .int .i64 d.p, .int .i64 d.a, .int .i64 d.b, .int .i64 d.m, .int .u32 d.s, .int .i64 d.key] 79)) := (Below.refl _ _).alloc (Nat.le_refl _) _
  have h2 := h.later hb
  have hc : (w.alloc (.cells #[.int .i64 d.n, .int .i64 d.k, .int .i64 d.p, .int .i64 d.a, .int .i64 d.b, .int .i64 d.m, .int .u32 d.s, .int .i64 d.key] 79)).cell? ⟨fc, 0, none⟩ = some (.func (.func 67) #[] #[.pointer (some ⟨gb, 0, none⟩)]) := by
    unfold World.cell?
    simp only
    rw [h2.f]
    rfl
  have hcb := cell_box w d
  have HD := hidden (drop1_any h2 d.n)
  have HB := hidden hb
  generalize gs.contains d.n = D at *
  clear h h2 hb
  go_enter Try.func70, Try.ntmps70
  go_upto_region 1 with fail
  generalize w.alloc (.cells #[.int .i64 d.n, .int .i64 d.k, .int .i64 d.p, .int .i64 d.a, .int .i64 d.b, .int .i64 d.m, .int .u32 d.s, .int .i64 d.key] 79) = W at *
  go_wp2_with (first | (go_at_call 67; refine HD.out.mono ?_; rintro e w1 ⟨rfl, hb1⟩; have HB1 := hidden (HB.out.trans (hb1.mono HB.out.size)); clear hb1) | fail)
  go_ret
  exact ⟨rfl, HB1⟩
end Go.Proofs.Ytilfgbcbodjegaa
