/- Contracts of the document's small functions for layer 3 (package grottoref03: one, Turn, open). Contract of the document's open (package grottoref03) where one of two patterns may not be opened. Contract of the document's Div (package grottoref03): quotients of two patterns. Contract of the document's exact (package grottoref03): what a pattern says as an exact number. Contract of the document's alike (package grottoref03): two exact numbers with one exponent. Contract of the document's whole (package grottoref03): a number's part ahead of the point. The document's step (package grottoref03): the next whole number on one side. The document's Ceil and Floor (package grottoref03). The document's Whole (package grottoref03), leaf by leaf. The document's Convert (package grottoref03), leaf by leaf. -/
import Derived.Test.YtfjpiahgnojlhaaDoorL2d
import Derived.Test.YtfjpiahgnojlhaaDoorN3a
import Derived.Test.YtfjpiahgnojlhaaDoorZ3
import Derived.Test.YtfjpiahgnojlhaaDoorT3
import Derived.Test.YtfjpiahgnojlhaaDoorN5m
namespace Go.Proofs.YtfjpiahgnojlhaaDoor
open Go.RowKit
set_option maxRecDepth 100000
set_option maxHeartbeats 4000000
set_option linter.unusedVariables false

theorem one_any (w : World) : Calls Tryd.prog 46 #[] w fun r w' => r = .returned (.slice (some ⟨w.heap.size, 0, none⟩) 1 1) ∧ w' = w.alloc (.cells #[.int .i64 1] 3) := by
  go_enter Tryd.func46, Tryd.ntmps46
  go_wp2
  go_ret
  exact ⟨rfl, rfl⟩
end Go.Proofs.YtfjpiahgnojlhaaDoor
namespace Go.Proofs.YtfjpiahgnojlhaaDoor
open Go.RowKit
set_option maxRecDepth 100000
set_option maxHeartbeats 1000000
set_option linter.unusedVariables false

end Go.Proofs.YtfjpiahgnojlhaaDoor
namespace Go.Proofs.YtfjpiahgnojlhaaDoor
open Go.RowKit
set_option maxRecDepth 100000
set_option maxHeartbeats 2000000
set_option linter.unusedVariables false

theorem has_of3 {w : World} {a : Option Addr} {l c : Nat} {ds : List Int} {N : Int} (rt : RdD w a l c ds) (kt : OkD ds) (vt : nv ds = N) (tt : l = 0 ∨ ds.getD (l - 1) 0 ≠ 0) : HasNat w a l c ds N := ⟨rt, kt, vt, tt⟩
end Go.Proofs.YtfjpiahgnojlhaaDoor
namespace Go.Proofs.YtfjpiahgnojlhaaDoor
open Go.RowKit
set_option maxRecDepth 100000
set_option maxHeartbeats 2000000
set_option linter.unusedVariables false

/-- a fresh box of an exact number -/
def ZRs (w : World) (b : Nat) : Prop := w.cell? ⟨b, 0, none⟩ = some (.int .i64 0) ∧ w.cell? ⟨b, 1, none⟩ = some (.slice none 0 0) ∧ w.cell? ⟨b, 2, none⟩ = some (.int .i64 0) ∧ w.frozen? ⟨b, 0, none⟩ = false ∧ w.frozen? ⟨b, 1, none⟩ = false ∧ w.frozen? ⟨b, 2, none⟩ = false
theorem zr_of {X w2 : World} (hb : Below X.heap.size X w2) (b : Nat) (h : ZRs X b) : ZRs w2 b := by
  obtain ⟨h0, h1, h2, k0, k1, k2⟩ := h
  have hl : b < X.heap.size := World.block_lt_of_cell? _ _ h0
  exact ⟨cellLater hb h0, cellLater hb h1, cellLater hb h2, (hb.frozen hl).trans k0, (hb.frozen hl).trans k1, (hb.frozen hl).trans k2⟩
/-- three cells of a block written -/
def set3 (X : World) (b : Nat) (a0 a1 a2 : Value) : World := ((X.setCell ⟨b, 0, none⟩ a0).setCell ⟨b, 1, none⟩ a1).setCell ⟨b, 2, none⟩ a2
theorem set3_far (X : World) (b : Nat) (a0 a1 a2 : Value) (c i : Nat) (h : ¬ b = c) : (set3 X b a0 a1 a2).cell? ⟨c, i, none⟩ = X.cell? ⟨c, i, none⟩ := by
  unfold set3
  rw [World.cell?_setCell_far _ _ _ _ h, World.cell?_setCell_far _ _ _ _ h, World.cell?_setCell_far _ _ _ _ h]
theorem set3_at (X : World) (b : Nat) (a0 a1 a2 u0 u1 u2 : Value) (h0 : X.cell? ⟨b, 0, none⟩ = some u0) (h1 : X.cell? ⟨b, 1, none⟩ = some u1) (h2 : X.cell? ⟨b, 2, none⟩ = some u2) :
    (set3 X b a0 a1 a2).cell? ⟨b, 0, none⟩ = some a0 ∧ (set3 X b a0 a1 a2).cell? ⟨b, 1, none⟩ = some a1 ∧ (set3 X b a0 a1 a2).cell? ⟨b, 2, none⟩ = some a2 := by
  have o : ∀ (Y : World) (i j : Nat) (v : Value), i ≠ j → (Y.setCell ⟨b, i, none⟩ v).cell? ⟨b, j, none⟩ = Y.cell? ⟨b, j, none⟩ := fun Y i j v hij => World.cell?_setCell_other _ _ _ _ (fun h => hij (congrArg Addr.off h))
  unfold set3
  refine ⟨?_, ?_, ?_⟩
  · rw [o _ 2 0 _ (by decide), o _ 1 0 _ (by decide)]; exact World.cell?_setCell_same _ _ _ h0
  · rw [o _ 2 1 _ (by decide)]; exact World.cell?_setCell_same _ _ _ (by rw [o _ 0 1 _ (by decide)]; exact h1)
  · exact World.cell?_setCell_same _ _ _ (by rw [o _ 1 2 _ (by decide), o _ 0 2 _ (by decide)]; exact h2)
theorem set3_below {B : Nat} {a X : World} (h : Below B a X) (b : Nat) (hb : B ≤ b) (a0 a1 a2 : Value) : Below B a (set3 X b a0 a1 a2) :=
  ((h.setCell (p := ⟨b, 0, none⟩) hb _).setCell (p := ⟨b, 1, none⟩) hb _).setCell (p := ⟨b, 2, none⟩) hb _
/-- digits that do not lie in the block that is written -/
theorem rd_set3 {w : World} {a : Option Addr} {l c : Nat} {ds : List Int} (h : RdD w a l c ds) (b : Nat) (a0 a1 a2 : Value) (hn : ∀ p, a = some p → ¬ b = p.block) : RdD (set3 w b a0 a1 a2) a l c ds := by
  obtain ⟨h1, h2, h3⟩ := h
  refine ⟨h1, h2, ?_⟩
  rcases h3 with h3 | ⟨g, off, rfl, hc⟩
  · exact .inl h3
  · exact .inr ⟨g, off, rfl, fun i hi => (set3_far w b a0 a1 a2 g (off + i) (hn _ rfl)).trans (hc i hi)⟩
def sgnI (n : Bool) : Int := if n then -1 else 1
end Go.Proofs.YtfjpiahgnojlhaaDoor
namespace Go.Proofs.YtfjpiahgnojlhaaDoor
open Go.RowKit
set_option maxRecDepth 100000
set_option maxHeartbeats 4000000
set_option linter.unusedVariables false

theorem six_later {w6 w7 : World} {A B C D E F : Addr} {a b c d e f : Value} (hb : Below w6.heap.size w6 w7) (h : w6.cell? A = some a ∧ w6.cell? B = some b ∧ w6.cell? C = some c ∧ w6.cell? D = some d ∧ w6.cell? E = some e ∧ w6.cell? F = some f) : w7.cell? A = some a ∧ w7.cell? B = some b ∧ w7.cell? C = some c ∧ w7.cell? D = some d ∧ w7.cell? E = some e ∧ w7.cell? F = some f :=
  ⟨cellLater hb h.1, cellLater hb h.2.1, cellLater hb h.2.2.1, cellLater hb h.2.2.2.1, cellLater hb h.2.2.2.2.1, cellLater hb h.2.2.2.2.2⟩
/-- two exact numbers with the exponent e -/
def AlikeRet (w : World) (S1 S2 A1 A2 e : Int) (k1 k2 l1 l2 : Nat) (r : Ending) (w' : World) : Prop :=
  ∃ au lu cu du av lv cv dv, r = .returned (.tuple #[.agg #[.int .i64 S1, .slice au lu cu, .int .i64 e], .agg #[.int .i64 S2, .slice av lv cv, .int .i64 e]]) ∧ HasNat w' au lu cu du (A1 * p2 k1) ∧ HasNat w' av lv cv dv (A2 * p2 k2) ∧ lu ≤ k1 / 16 + l1 + 1 ∧ lv ≤ k2 / 16 + l2 + 1 ∧ Below w.heap.size w w' ∧ (∀ p, au = some p → w.heap.size ≤ p.block) ∧ (∀ p, av = some p → w.heap.size ≤ p.block)
end Go.Proofs.YtfjpiahgnojlhaaDoor
namespace Go.Proofs.YtfjpiahgnojlhaaDoor
open Go.RowKit
set_option maxRecDepth 100000
set_option maxHeartbeats 400000
set_option linter.unusedVariables false

def WholeRet (w : World) (N : Int) (beh : Bool) (L : Nat) (r : Ending) (w' : World) : Prop := ∃ a l c ds, r = .returned (.tuple #[.slice a l c, .bool beh]) ∧ HasNat w' a l c ds N ∧ l ≤ L ∧ Below w.heap.size w w'
theorem up_has {w : World} {a : Option Addr} {l c : Nat} {ds : List Int} {N : Int} (h : HasNat w a l c ds N) (n : Nat) (hl : (l : Int) ≤ 20000) (hn : (n : Int) ≤ 100000) :
    Calls Tryd.prog 37 #[.slice a l c, .int .i64 n] w fun r w' => ∃ a2 l2 c2 d2, r = .returned (.slice a2 l2 c2) ∧ HasNat w' a2 l2 c2 d2 (N * p2 n) ∧ l2 ≤ n / 16 + l + 1 ∧ Below w.heap.size w w' := by
  refine (up_any a l c ds n w h.rd h.ok hl hn).mono ?_
  rintro r w' ⟨a2, l2, c2, d2, rfl, r2, k2, v2, lb, t2, hb, -⟩
  rw [h.val] at v2
  exact ⟨a2, l2, c2, d2, rfl, ⟨r2, k2, v2, t2⟩, lb, hb⟩
theorem natOf_has (x : Int) (w : World) (x0 : 0 ≤ x) (x1 : x ≤ 18446744073709551615) :
    Calls Tryd.prog 20 #[.int .u64 x] w fun r w' => ∃ a2 l2 c2 d2, r = .returned (.slice a2 l2 c2) ∧ HasNat w' a2 l2 c2 d2 x ∧ l2 ≤ 4 ∧ Below w.heap.size w w' := by
  refine (natOf_any x w x0 x1).mono ?_
  rintro r w' ⟨a2, l2, c2, d2, rfl, r2, k2, v2, lb, t2, hb, -⟩
  exact ⟨a2, l2, c2, d2, rfl, ⟨r2, k2, v2, t2⟩, lb, hb⟩
theorem one_has (w : World) : Calls Tryd.prog 46 #[] w fun r w' => ∃ a2 l2 c2 d2, r = .returned (.slice a2 l2 c2) ∧ HasNat w' a2 l2 c2 d2 1 ∧ l2 ≤ 1 ∧ Below w.heap.size w w' := by
  refine (one_any w).mono ?_
  rintro r w' ⟨rfl, rfl⟩
  exact ⟨_, _, _, [1], rfl, ⟨rd_one w, fun d hd => by simp at hd; omega, by simp [nv], .inr (by decide)⟩, Nat.le_refl _, (Below.refl _ _).alloc (Nat.le_refl _) _⟩
theorem whole_up (K M : Int) (n near : Bool) (k : Nat) (w : World) (hk : (k : Int) ≤ 3000) (m0 : 0 ≤ M) (m1 : M ≤ 18446744073709551615) :
    Calls Tryd.prog 47 #[partsV K n (k : Int) M, .bool near] w fun r w' => WholeRet w (M * p2 k) false (k / 16 + 5) r w' := by
  obtain ⟨f0, f1, f2, f3, -⟩ := ps_fresh w K (k : Int) M n
  have HB := hidden (((Below.refl w.heap.size w).alloc (Nat.le_refl _) (.cells #[.int .i64 K, .bool n, .int .i64 (k : Int), .int .u64 M] 78)))
  have hk0 : (0 : Int) ≤ k := by omega
  go_enter Tryd.func47, Tryd.ntmps47
  go_upto_region 1 with fail
  change Code.wp _ _ _ _ (w.alloc (.cells #[.int .i64 K, .bool n, .int .i64 (k : Int), .int .u64 M] 78))
  generalize w.alloc (.cells #[.int .i64 K, .bool n, .int .i64 (k : Int), .int .u64 M] 78) = w5 at *
  go_upto_region 2 with fail
  go_region_held3 (fun w' => w'.cell? ⟨w.heap.size, 2, none⟩ = some (.int .i64 (k : Int)) ∧ w'.cell? ⟨w.heap.size, 3, none⟩ = some (.int .u64 M)) (go_keep) (first | (go_at_call 20; refine (natOf_has M w5.drew m0 m1).mono ?_; rintro r w6 ⟨a6, l6, c6, d6, rfl, h6, hl6, hb6⟩; have f2 := cellLater hb6 (cellLater ((Below.refl _ _).drew) f2); have f3 := cellLater hb6 (cellLater ((Below.refl _ _).drew) f3); have H6 := hidden h6; have HB6 := hidden (HB.out.drew.trans (hb6.mono HB.out.drew.size)); clear h6 hb6) | (go_at_call 37; refine (up_has H6.out k (by omega) (by omega)).mono ?_; rintro r w7 ⟨a7, l7, c7, d7, rfl, h7, hl7, hb7⟩; have f2 := cellLater hb7 f2; have f3 := cellLater hb7 f3; have H7 := hidden h7; have HB7 := hidden (HB6.out.trans (hb7.mono HB6.out.size)); clear h7 hb7))
  all_goals
    go_wp2
    go_ret2
    exact ⟨a7, l7, c7, d7, rfl, H7.out, by omega, HB7.out⟩
theorem div_is2 {N b q r : Int} (h : b * q + r = N) (r0 : 0 ≤ r) (r1 : r < b) : N / b = q ∧ N % b = r := by
  rw [← h, Int.add_comm, Int.add_mul_ediv_left _ _ (by omega), Int.add_mul_emod_self_left, Int.ediv_eq_zero_of_lt r0 r1, Int.emod_eq_of_lt r0 r1]
  omega
theorem whole_cut (K E M : Int) (n : Bool) (k : Nat) (w : World) (hk : -E = k) (hk0 : 0 < k) (hk1 : (k : Int) ≤ 3000) (m0 : 0 ≤ M) (m1 : M ≤ 18446744073709551615) :
    Calls Tryd.prog 47 #[partsV K n E M, .bool false] w fun r w' => WholeRet w (M / p2 k) (decide (M % p2 k ≠ 0)) 4 r w' := by
  obtain ⟨f0, f1, f2, f3, -⟩ := ps_fresh w K E M n
  have HB := hidden (((Below.refl w.heap.size w).alloc (Nat.le_refl _) (.cells #[.int .i64 K, .bool n, .int .i64 E, .int .u64 M] 78)))
  have hE : ¬ 0 ≤ E := by omega
  have hw : IntKind.i64.wrap (-E) = k := by rw [wrapi _ (by omega) (by omega)]; exact hk
  have hkn : (0 : Int) ≤ k := by omega
  have HKE := hidden hk
  clear hk
  go_enter Tryd.func47, Tryd.ntmps47
  go_upto_region 1 with fail
  change Code.wp _ _ _ _ (w.alloc (.cells #[.int .i64 K, .bool n, .int .i64 E, .int .u64 M] 78))
  generalize w.alloc (.cells #[.int .i64 K, .bool n, .int .i64 E, .int .u64 M] 78) = w5 at *
  go_upto_region 3 with fail
  go_region_held3 (fun w' => w'.cell? ⟨w.heap.size, 2, none⟩ = some (.int .i64 E) ∧ w'.cell? ⟨w.heap.size, 3, none⟩ = some (.int .u64 M)) (go_keep) (first | (go_at_call 46; refine (one_has w5.drew).mono ?_; rintro r w6 ⟨a6, l6, c6, d6, rfl, h6, hl6, hb6⟩; have f2 := cellLater hb6 (cellLater ((Below.refl _ _).drew) f2); have f3 := cellLater hb6 (cellLater ((Below.refl _ _).drew) f3); have H6 := hidden h6; have HB6 := hidden (HB.out.drew.trans (hb6.mono HB.out.drew.size)); clear h6 hb6) | (go_at_call 37; refine (up_has H6.out k (by omega) (by omega)).mono ?_; rintro r w7 ⟨a7, l7, c7, d7, rfl, h7, hl7, hb7⟩; have f2 := cellLater hb7 f2; have f3 := cellLater hb7 f3; rw [Int.one_mul] at h7; have H7 := hidden h7; have HB7 := hidden (HB6.out.trans (hb7.mono HB6.out.size)); clear h7 hb7))
  all_goals
    go_wp2_with fail
    refine (natOf_has M _ m0 m1).mono ?_
    rintro r w8 ⟨a8, l8, c8, d8, rfl, h8, hl8, hb8⟩
    have HD8 := hidden (H7.out.later hb8)
    have H8 := hidden h8
    have HB8 := hidden (HB7.out.trans (hb8.mono HB7.out.size))
    clear h8 hb8
    go_wp2_with fail
    refine (quo_any a8 a7 l8 c8 l7 c7 d8 d7 M (p2 k) _ H8.out HD8.out (p2_pos k) (by omega) (by omega)).mono ?_
    rintro r w9 ⟨aq, lq, cq, dq, ar, lr, cr, dr, Q, R, rfl, hq, hr, hqr, hlt, hlq, hlr, hb9⟩
    obtain ⟨eQ, eR⟩ := div_is2 (N := M) (b := p2 k) (q := Q) (r := R) (by rw [Int.mul_comm (p2 k) Q]; exact hqr) hr.nonneg hlt
    have hlq4 : lq ≤ 4 := by
      have := hq.len_le H8.out (by rw [← eQ]; exact Int.ediv_le_self _ m0)
      omega
    have HQ := hidden hq
    have HR := hidden hr
    have HD9 := hidden (HD8.out.later hb9)
    have HB9 := hidden (HB8.out.trans (hb9.mono HB8.out.size))
    have hRn := hr.nonneg
    have HE := hidden eQ
    have HE2 := hidden eR
    have HLT := hidden hlt
    clear hq hr hqr hlt hb9 eQ eR hlq
    have hbeh : Hid (decide (0 < bl R) = decide (M % p2 k ≠ 0)) := hidden (by
      rw [HE2.out]
      refine decide_eq_decide.2 ⟨fun h h0 => ?_, fun h => ?_⟩
      · rw [h0, bl_zero] at h; omega
      · have := (bl_bd R (by omega)).1; omega)
    go_wp2_with (go_at_call 35; refine (bits_bl HR.out (by omega)).mono ?_; rintro r w10 ⟨rfl, hw10⟩; obtain rfl := hw10.symm)
    go_ret2
    refine ⟨aq, lq, cq, dq, ?_, by rw [HE.out]; exact HQ.out, hlq4, HB9.out⟩
    rw [← hbeh.out]
    rfl
theorem whole_near0 (K E M : Int) (n : Bool) (k : Nat) (w : World) (hk : -E = k) (hk0 : 0 < k) (hk1 : (k : Int) ≤ 3000) (m0 : 0 ≤ M) (m1 : M ≤ 18446744073709551615) (hlo : 2 * (M % p2 k) < p2 k) :
    Calls Tryd.prog 47 #[partsV K n E M, .bool true] w fun r w' => WholeRet w (M / p2 k) (decide (M % p2 k ≠ 0)) 4 r w' := by
  obtain ⟨f0, f1, f2, f3, -⟩ := ps_fresh w K E M n
  have HB := hidden (((Below.refl w.heap.size w).alloc (Nat.le_refl _) (.cells #[.int .i64 K, .bool n, .int .i64 E, .int .u64 M] 78)))
  have hE : ¬ 0 ≤ E := by omega
  have hw : IntKind.i64.wrap (-E) = k := by rw [wrapi _ (by omega) (by omega)]; exact hk
  have hkn : (0 : Int) ≤ k := by omega
  have HKE := hidden hk
  clear hk
  go_enter Tryd.func47, Tryd.ntmps47
  go_upto_region 1 with fail
  change Code.wp _ _ _ _ (w.alloc (.cells #[.int .i64 K, .bool n, .int .i64 E, .int .u64 M] 78))
  generalize w.alloc (.cells #[.int .i64 K, .bool n, .int .i64 E, .int .u64 M] 78) = w5 at *
  go_upto_region 3 with fail
  go_region_held3 (fun w' => w'.cell? ⟨w.heap.size, 2, none⟩ = some (.int .i64 E) ∧ w'.cell? ⟨w.heap.size, 3, none⟩ = some (.int .u64 M)) (go_keep) (first | (go_at_call 46; refine (one_has w5.drew).mono ?_; rintro r w6 ⟨a6, l6, c6, d6, rfl, h6, hl6, hb6⟩; have f2 := cellLater hb6 (cellLater ((Below.refl _ _).drew) f2); have f3 := cellLater hb6 (cellLater ((Below.refl _ _).drew) f3); have H6 := hidden h6; have HB6 := hidden (HB.out.drew.trans (hb6.mono HB.out.drew.size)); clear h6 hb6) | (go_at_call 37; refine (up_has H6.out k (by omega) (by omega)).mono ?_; rintro r w7 ⟨a7, l7, c7, d7, rfl, h7, hl7, hb7⟩; have f2 := cellLater hb7 f2; have f3 := cellLater hb7 f3; rw [Int.one_mul] at h7; have H7 := hidden h7; have HB7 := hidden (HB6.out.trans (hb7.mono HB6.out.size)); clear h7 hb7))
  all_goals
    go_wp2_with fail
    refine (natOf_has M _ m0 m1).mono ?_
    rintro r w8 ⟨a8, l8, c8, d8, rfl, h8, hl8, hb8⟩
    have HD8 := hidden (H7.out.later hb8)
    have H8 := hidden h8
    have HB8 := hidden (HB7.out.trans (hb8.mono HB7.out.size))
    clear h8 hb8
    go_wp2_with fail
    refine (quo_any a8 a7 l8 c8 l7 c7 d8 d7 M (p2 k) _ H8.out HD8.out (p2_pos k) (by omega) (by omega)).mono ?_
    rintro r w9 ⟨aq, lq, cq, dq, ar, lr, cr, dr, Q, R, rfl, hq, hr, hqr, hlt, hlq, hlr, hb9⟩
    obtain ⟨eQ, eR⟩ := div_is2 (N := M) (b := p2 k) (q := Q) (r := R) (by rw [Int.mul_comm (p2 k) Q]; exact hqr) hr.nonneg hlt
    have hlq4 : lq ≤ 4 := by
      have := hq.len_le H8.out (by rw [← eQ]; exact Int.ediv_le_self _ m0)
      omega
    have HQ := hidden hq
    have HR := hidden hr
    have HD9 := hidden (HD8.out.later hb9)
    have HB9 := hidden (HB8.out.trans (hb9.mono HB8.out.size))
    have hRn := hr.nonneg
    have HE := hidden eQ
    have HE2 := hidden eR
    have HLT := hidden hlt
    clear hq hr hqr hlt hb9 eQ eR hlq
    have hbeh : Hid (decide (0 < bl R) = decide (M % p2 k ≠ 0)) := hidden (by
      rw [HE2.out]
      refine decide_eq_decide.2 ⟨fun h h0 => ?_, fun h => ?_⟩
      · rw [h0, bl_zero] at h; omega
      · have := (bl_bd R (by omega)).1; omega)
    go_wp2_with fail
    refine (up_has HR.out 1 (by omega) (by omega)).mono ?_
    rintro r w11 ⟨au, lu, cu, du, rfl, hu, hlu, hb11⟩
    have HU := hidden hu
    have HD11 := hidden (HD9.out.later hb11)
    have HQ11 := hidden (HQ.out.later hb11)
    have HR11 := hidden (HR.out.later hb11)
    have HB11 := hidden (HB9.out.trans (hb11.mono HB9.out.size))
    clear hu hb11
    go_wp2_with fail
    refine (cmp_any au a7 lu cu l7 c7 du d7 _ HU.out.rd HD11.out.rd HU.out.ok HD11.out.ok (by omega) (by omega)).mono ?_
    rintro r w12 ⟨rfl, hb12⟩
    rw [HU.out.val, HD11.out.val]
    have HQ12 := hidden (HQ11.out.later hb12)
    have HR12 := hidden (HR11.out.later hb12)
    have HB12 := hidden (HB11.out.trans (hb12.mono HB11.out.size))
    clear hb12
    have e1 : p2 1 = 2 := rfl
    have hcm : ¬ 0 ≤ cmpI (R * p2 1) (p2 k) := by
      have h1 := hlo
      rw [HE2.out] at h1
      rw [e1]
      unfold cmpI
      split <;> (try split) <;> omega
    clear e1
    generalize cmpI (R * p2 1) (p2 k) = CC at *
    go_wp2_with (go_at_call 35; refine (bits_bl HR12.out (by omega)).mono ?_; rintro r w10 ⟨rfl, hw10⟩; obtain rfl := hw10.symm)
    go_ret2
    refine ⟨aq, lq, cq, dq, ?_, by rw [HE.out]; exact HQ12.out, hlq4, HB12.out⟩
    rw [← hbeh.out]
    rfl
theorem whole_near1 (K E M : Int) (n : Bool) (k : Nat) (w : World) (hk : -E = k) (hk0 : 0 < k) (hk1 : (k : Int) ≤ 3000) (m0 : 0 ≤ M) (m1 : M ≤ 18446744073709551615) (hhi : p2 k ≤ 2 * (M % p2 k)) :
    Calls Tryd.prog 47 #[partsV K n E M, .bool true] w fun r w' => WholeRet w (M / p2 k + 1) (decide (M % p2 k ≠ 0)) 5 r w' := by
  obtain ⟨f0, f1, f2, f3, -⟩ := ps_fresh w K E M n
  have HB := hidden (((Below.refl w.heap.size w).alloc (Nat.le_refl _) (.cells #[.int .i64 K, .bool n, .int .i64 E, .int .u64 M] 78)))
  have hE : ¬ 0 ≤ E := by omega
  have hw : IntKind.i64.wrap (-E) = k := by rw [wrapi _ (by omega) (by omega)]; exact hk
  have hkn : (0 : Int) ≤ k := by omega
  have HKE := hidden hk
  clear hk
  go_enter Tryd.func47, Tryd.ntmps47
  go_upto_region 1 with fail
  change Code.wp _ _ _ _ (w.alloc (.cells #[.int .i64 K, .bool n, .int .i64 E, .int .u64 M] 78))
  generalize w.alloc (.cells #[.int .i64 K, .bool n, .int .i64 E, .int .u64 M] 78) = w5 at *
  go_upto_region 3 with fail
  go_region_held3 (fun w' => w'.cell? ⟨w.heap.size, 2, none⟩ = some (.int .i64 E) ∧ w'.cell? ⟨w.heap.size, 3, none⟩ = some (.int .u64 M)) (go_keep) (first | (go_at_call 46; refine (one_has w5.drew).mono ?_; rintro r w6 ⟨a6, l6, c6, d6, rfl, h6, hl6, hb6⟩; have f2 := cellLater hb6 (cellLater ((Below.refl _ _).drew) f2); have f3 := cellLater hb6 (cellLater ((Below.refl _ _).drew) f3); have H6 := hidden h6; have HB6 := hidden (HB.out.drew.trans (hb6.mono HB.out.drew.size)); clear h6 hb6) | (go_at_call 37; refine (up_has H6.out k (by omega) (by omega)).mono ?_; rintro r w7 ⟨a7, l7, c7, d7, rfl, h7, hl7, hb7⟩; have f2 := cellLater hb7 f2; have f3 := cellLater hb7 f3; rw [Int.one_mul] at h7; have H7 := hidden h7; have HB7 := hidden (HB6.out.trans (hb7.mono HB6.out.size)); clear h7 hb7))
  all_goals
    go_wp2_with fail
    refine (natOf_has M _ m0 m1).mono ?_
    rintro r w8 ⟨a8, l8, c8, d8, rfl, h8, hl8, hb8⟩
    have HD8 := hidden (H7.out.later hb8)
    have H8 := hidden h8
    have HB8 := hidden (HB7.out.trans (hb8.mono HB7.out.size))
    clear h8 hb8
    go_wp2_with fail
    refine (quo_any a8 a7 l8 c8 l7 c7 d8 d7 M (p2 k) _ H8.out HD8.out (p2_pos k) (by omega) (by omega)).mono ?_
    rintro r w9 ⟨aq, lq, cq, dq, ar, lr, cr, dr, Q, R, rfl, hq, hr, hqr, hlt, hlq, hlr, hb9⟩
    obtain ⟨eQ, eR⟩ := div_is2 (N := M) (b := p2 k) (q := Q) (r := R) (by rw [Int.mul_comm (p2 k) Q]; exact hqr) hr.nonneg hlt
    have hlq4 : lq ≤ 4 := by
      have := hq.len_le H8.out (by rw [← eQ]; exact Int.ediv_le_self _ m0)
      omega
    have HQ := hidden hq
    have HR := hidden hr
    have HD9 := hidden (HD8.out.later hb9)
    have HB9 := hidden (HB8.out.trans (hb9.mono HB8.out.size))
    have hRn := hr.nonneg
    have HE := hidden eQ
    have HE2 := hidden eR
    have HLT := hidden hlt
    clear hq hr hqr hlt hb9 eQ eR hlq
    have hbeh : Hid (decide (0 < bl R) = decide (M % p2 k ≠ 0)) := hidden (by
      rw [HE2.out]
      refine decide_eq_decide.2 ⟨fun h h0 => ?_, fun h => ?_⟩
      · rw [h0, bl_zero] at h; omega
      · have := (bl_bd R (by omega)).1; omega)
    go_wp2_with fail
    refine (up_has HR.out 1 (by omega) (by omega)).mono ?_
    rintro r w11 ⟨au, lu, cu, du, rfl, hu, hlu, hb11⟩
    have HU := hidden hu
    have HD11 := hidden (HD9.out.later hb11)
    have HQ11 := hidden (HQ.out.later hb11)
    have HR11 := hidden (HR.out.later hb11)
    have HB11 := hidden (HB9.out.trans (hb11.mono HB9.out.size))
    clear hu hb11
    go_wp2_with fail
    refine (cmp_any au a7 lu cu l7 c7 du d7 _ HU.out.rd HD11.out.rd HU.out.ok HD11.out.ok (by omega) (by omega)).mono ?_
    rintro r w12 ⟨rfl, hb12⟩
    rw [HU.out.val, HD11.out.val]
    have HQ12 := hidden (HQ11.out.later hb12)
    have HR12 := hidden (HR11.out.later hb12)
    have HB12 := hidden (HB11.out.trans (hb12.mono HB11.out.size))
    clear hb12
    have e1 : p2 1 = 2 := rfl
    have hcm : 0 ≤ cmpI (R * p2 1) (p2 k) := by
      have h1 := hhi
      rw [HE2.out] at h1
      rw [e1]
      unfold cmpI
      split <;> (try split) <;> omega
    clear e1
    generalize cmpI (R * p2 1) (p2 k) = CC at *
    go_wp2_with fail
    refine (one_has _).mono ?_
    rintro r w13 ⟨ao, lo, co, do', rfl, ho, hlo, hb13⟩
    have HO := hidden ho
    have HQ13 := hidden (HQ12.out.later hb13)
    have HR13 := hidden (HR12.out.later hb13)
    have HB13 := hidden (HB12.out.trans (hb13.mono HB12.out.size))
    clear ho hb13
    go_wp2_with fail
    refine (plus_any aq ao lq cq lo co dq do' _ HQ13.out.rd HO.out.rd HQ13.out.ok HO.out.ok (by omega) (by omega)).mono ?_
    rintro r w14 ⟨an, ln, cn, dn, rfl, rn, kn, vn, lbn, tn, hb14, -⟩
    rw [HQ13.out.val, HO.out.val] at vn
    have HN := hidden (has_of3 rn kn vn tn)
    have HR14 := hidden (HR13.out.later hb14)
    have HB14 := hidden (HB13.out.trans (hb14.mono HB13.out.size))
    clear rn kn vn tn hb14
    go_wp2_with (go_at_call 35; refine (bits_bl HR14.out (by omega)).mono ?_; rintro r w10 ⟨rfl, hw10⟩; obtain rfl := hw10.symm)
    go_ret2
    refine ⟨an, ln, cn, dn, ?_, by rw [HE.out]; exact HN.out, by omega, HB14.out⟩
    rw [← hbeh.out]
    rfl
end Go.Proofs.YtfjpiahgnojlhaaDoor
namespace Go.Proofs.YtfjpiahgnojlhaaDoor
open Go.RowKit
set_option maxRecDepth 100000
set_option maxHeartbeats 400000
set_option linter.unusedVariables false

theorem ropen_box (m x K E M : Int) (n : Bool) (w w1 : World) (hb : Below (w.alloc (.cells #[.int .i64 m, .int .i64 x] 40)).heap.size (w.alloc (.cells #[.int .i64 m, .int .i64 x] 40)) w1) :
    ∃ w5, w5 = w1.alloc (.cells #[.int .i64 K, .bool n, .int .i64 E, .int .u64 M] 78) ∧ Below w.heap.size w w5 ∧ w5.cell? ⟨w.heap.size, 0, none⟩ = some (.int .i64 m) ∧ w5.cell? ⟨w.heap.size, 1, none⟩ = some (.int .i64 x) ∧
      w5.cell? ⟨w1.heap.size, 0, none⟩ = some (.int .i64 K) ∧ w5.cell? ⟨w1.heap.size, 1, none⟩ = some (.bool n) ∧ w5.cell? ⟨w1.heap.size, 2, none⟩ = some (.int .i64 E) ∧ w5.cell? ⟨w1.heap.size, 3, none⟩ = some (.int .u64 M) := by
  have hB := box_below _ hb
  have d0 : w1.cell? ⟨w.heap.size, 0, none⟩ = some (.int .i64 m) := cellLater hb (by simp)
  have d1 : w1.cell? ⟨w.heap.size, 1, none⟩ = some (.int .i64 x) := cellLater hb (by simp)
  have hZ : Below w1.heap.size w1 (w1.alloc (.cells #[.int .i64 K, .bool n, .int .i64 E, .int .u64 M] 78)) := (Below.refl _ _).alloc (Nat.le_refl _) _
  obtain ⟨p0, p1, p2, p3, -⟩ := ps_fresh w1 K E M n
  exact ⟨_, rfl, hB.trans (hZ.mono hB.size), cellLater hZ d0, cellLater hZ d1, p0, p1, p2, p3⟩
/-- what step answers of a whole number N -/
def StepRet (w : World) (m x : Nat) (n : Bool) (N : Int) (r : Ending) (w' : World) : Prop := ∃ P, r = .returned (.tuple #[.int .u64 (P + sgnW n (m + x)), .int .i64 0]) ∧ ((N = 0 ∧ P = 0) ∨ (0 < N ∧ IsNear m x N 1 0 P)) ∧ Below w.heap.size w w'
end Go.Proofs.YtfjpiahgnojlhaaDoor
namespace Go.Proofs.YtfjpiahgnojlhaaDoor
open Go.RowKit
set_option maxRecDepth 100000
set_option maxHeartbeats 400000
set_option linter.unusedVariables false

end Go.Proofs.YtfjpiahgnojlhaaDoor
namespace Go.Proofs.YtfjpiahgnojlhaaDoor
open Go.RowKit
set_option maxRecDepth 100000
set_option maxHeartbeats 400000
set_option linter.unusedVariables false

theorem small_has {w : World} {a : Option Addr} {l c : Nat} {ds : List Int} {N : Int} (h : HasNat w a l c ds N) (hl : (l : Int) ≤ 1000000) (hx : N ≤ 18446744073709551615) :
    Calls Tryd.prog 39 #[.slice a l c] w fun r w' => r = .returned (.int .u64 N) ∧ w' = w := by
  have := small_any a l c ds w h.rd h.ok hl (by rw [h.val]; exact hx)
  rw [h.val] at this
  exact this
theorem rwhole_err (m x a : Int) (near : Bool) (w : World)
    (HO : Hid (∀ w, Calls Tryd.prog 45 #[.agg #[.int .i64 m, .int .i64 x], .int .u64 a] w fun r w' => r = .returned (.tuple #[partsV 0 false 0 0, .int .i64 1]) ∧ Below w.heap.size w w')) :
    Calls Tryd.prog 23 #[.agg #[.int .i64 m, .int .i64 x], .int .u64 a, .bool near] w fun r w' => r = .returned (.tuple #[.int .u64 0, .bool false, .int .i64 1]) ∧ Below w.heap.size w w' := by
  go_enter Tryd.func23, Tryd.ntmps23
  go_wp2_with fail
  refine (HO.out _).mono ?_
  rintro r w1 ⟨rfl, hb1⟩
  have HB1 := hidden (box_below _ hb1)
  clear hb1
  go_wp2
  go_ret3
  exact ⟨rfl, HB1.out.alloc HB1.out.size _⟩
theorem rwhole_nan (m x a K E M : Int) (n near : Bool) (w : World)
    (HO : Hid (∀ w, Calls Tryd.prog 45 #[.agg #[.int .i64 m, .int .i64 x], .int .u64 a] w fun r w' => r = .returned (.tuple #[partsV K n E M, .int .i64 0]) ∧ Below w.heap.size w w'))
    (k4 : (K == 4) = true) :
    Calls Tryd.prog 23 #[.agg #[.int .i64 m, .int .i64 x], .int .u64 a, .bool near] w fun r w' => r = .returned (.tuple #[.int .u64 1099511627776, .bool n, .int .i64 0]) ∧ Below w.heap.size w w' := by
  go_enter Tryd.func23, Tryd.ntmps23
  go_wp2_with fail
  refine (HO.out _).mono ?_
  rintro r w1 ⟨rfl, hb1⟩
  obtain ⟨w5, hw5, hx, c0, c1, p0, p1, p2', p3⟩ := ropen_box m x K E M n w w1 hb1
  have HB := hidden hx
  clear hx hb1
  go_upto_region 2 with fail
  change Code.wp _ _ _ _ (w1.alloc (.cells #[.int .i64 K, .bool n, .int .i64 E, .int .u64 M] 78))
  rw [← hw5]
  clear hw5
  go_wp2_with fail
  refine (one_has _).mono ?_
  rintro r w6 ⟨a6, l6, c6, d6, rfl, h6, hl6, hb6⟩
  have p0 := cellLater hb6 p0
  have p1 := cellLater hb6 p1
  have p2' := cellLater hb6 p2'
  have p3 := cellLater hb6 p3
  have H6 := hidden h6
  have HB6 := hidden (HB.out.trans (hb6.mono HB.out.size))
  clear h6 hb6 c0 c1
  go_wp2_with fail
  refine (up_has H6.out 40 (by omega) (by omega)).mono ?_
  rintro r w7 ⟨a7, l7, c7, d7, rfl, h7, hl7, hb7⟩
  rw [Int.one_mul, show p2 40 = 1099511627776 by decide +kernel] at h7
  have p0 := cellLater hb7 p0
  have p1 := cellLater hb7 p1
  have p2' := cellLater hb7 p2'
  have p3 := cellLater hb7 p3
  have H7 := hidden h7
  have HB7 := hidden (HB6.out.trans (hb7.mono HB6.out.size))
  clear h7 hb7
  have HSm := hidden (fun (W : World) (h : Below w7.heap.size w7 W) => small_has (H7.out.later h) (by omega) (by omega))
  go_upto_region 6 with fail
  go_quiet (exact Calls.quiet_of_same (HSm.out _ (below_drewN (Below.refl _ _) _)))
  go_wp2
  go_ret3
  exact ⟨rfl, below_drewN HB7.out _⟩
theorem rwhole_inf (m x a K E M : Int) (n near : Bool) (w : World)
    (HO : Hid (∀ w, Calls Tryd.prog 45 #[.agg #[.int .i64 m, .int .i64 x], .int .u64 a] w fun r w' => r = .returned (.tuple #[partsV K n E M, .int .i64 0]) ∧ Below w.heap.size w w'))
    (k4 : (K == 4) = false) (k3 : (K == 3) = true) :
    Calls Tryd.prog 23 #[.agg #[.int .i64 m, .int .i64 x], .int .u64 a, .bool near] w fun r w' => r = .returned (.tuple #[.int .u64 1099511627776, .bool n, .int .i64 0]) ∧ Below w.heap.size w w' := by
  go_enter Tryd.func23, Tryd.ntmps23
  go_wp2_with fail
  refine (HO.out _).mono ?_
  rintro r w1 ⟨rfl, hb1⟩
  obtain ⟨w5, hw5, hx, c0, c1, p0, p1, p2', p3⟩ := ropen_box m x K E M n w w1 hb1
  have HB := hidden hx
  clear hx hb1
  go_upto_region 2 with fail
  change Code.wp _ _ _ _ (w1.alloc (.cells #[.int .i64 K, .bool n, .int .i64 E, .int .u64 M] 78))
  rw [← hw5]
  clear hw5
  go_wp2_with fail
  refine (one_has _).mono ?_
  rintro r w6 ⟨a6, l6, c6, d6, rfl, h6, hl6, hb6⟩
  have p0 := cellLater hb6 p0
  have p1 := cellLater hb6 p1
  have p2' := cellLater hb6 p2'
  have p3 := cellLater hb6 p3
  have H6 := hidden h6
  have HB6 := hidden (HB.out.trans (hb6.mono HB.out.size))
  clear h6 hb6 c0 c1
  go_wp2_with fail
  refine (up_has H6.out 40 (by omega) (by omega)).mono ?_
  rintro r w7 ⟨a7, l7, c7, d7, rfl, h7, hl7, hb7⟩
  rw [Int.one_mul, show p2 40 = 1099511627776 by decide +kernel] at h7
  have p0 := cellLater hb7 p0
  have p1 := cellLater hb7 p1
  have p2' := cellLater hb7 p2'
  have p3 := cellLater hb7 p3
  have H7 := hidden h7
  have HB7 := hidden (HB6.out.trans (hb7.mono HB6.out.size))
  clear h7 hb7
  have HSm := hidden (fun (W : World) (h : Below w7.heap.size w7 W) => small_has (H7.out.later h) (by omega) (by omega))
  go_upto_region 6 with fail
  go_quiet (exact Calls.quiet_of_same (HSm.out _ (below_drewN (Below.refl _ _) _)))
  go_wp2
  go_ret3
  exact ⟨rfl, below_drewN HB7.out _⟩
theorem rwhole_few (m x a K E M N : Int) (n near beh : Bool) (L : Nat) (w : World) (hL : L ≤ 5000) (hN0 : 0 ≤ N)
    (HO : Hid (∀ w, Calls Tryd.prog 45 #[.agg #[.int .i64 m, .int .i64 x], .int .u64 a] w fun r w' => r = .returned (.tuple #[partsV K n E M, .int .i64 0]) ∧ Below w.heap.size w w'))
    (HW : Hid (∀ w, Calls Tryd.prog 47 #[partsV K n E M, .bool near] w fun r w' => WholeRet w N beh L r w'))
    (k4 : (K == 4) = false) (k3 : (K == 3) = false) (hN : N ≤ 1099511627776) :
    Calls Tryd.prog 23 #[.agg #[.int .i64 m, .int .i64 x], .int .u64 a, .bool near] w fun r w' => r = .returned (.tuple #[.int .u64 N, .bool n, .int .i64 0]) ∧ Below w.heap.size w w' := by
  go_enter Tryd.func23, Tryd.ntmps23
  go_wp2_with fail
  refine (HO.out _).mono ?_
  rintro r w1 ⟨rfl, hb1⟩
  obtain ⟨w5, hw5, hx, c0, c1, p0, p1, p2', p3⟩ := ropen_box m x K E M n w w1 hb1
  have HB := hidden hx
  clear hx hb1
  go_upto_region 2 with fail
  change Code.wp _ _ _ _ (w1.alloc (.cells #[.int .i64 K, .bool n, .int .i64 E, .int .u64 M] 78))
  rw [← hw5]
  clear hw5
  go_wp2_with fail
  refine (one_has _).mono ?_
  rintro r w6 ⟨a6, l6, c6, d6, rfl, h6, hl6, hb6⟩
  have p0 := cellLater hb6 p0
  have p1 := cellLater hb6 p1
  have p2' := cellLater hb6 p2'
  have p3 := cellLater hb6 p3
  have H6 := hidden h6
  have HB6 := hidden (HB.out.trans (hb6.mono HB.out.size))
  clear h6 hb6 c0 c1
  go_wp2_with fail
  refine (up_has H6.out 40 (by omega) (by omega)).mono ?_
  rintro r w7 ⟨a7, l7, c7, d7, rfl, h7, hl7, hb7⟩
  rw [Int.one_mul, show p2 40 = 1099511627776 by decide +kernel] at h7
  have p0 := cellLater hb7 p0
  have p1 := cellLater hb7 p1
  have p2' := cellLater hb7 p2'
  have p3 := cellLater hb7 p3
  have H7 := hidden h7
  have HB7 := hidden (HB6.out.trans (hb7.mono HB6.out.size))
  clear h7 hb7
  go_wp2_with fail
  refine (HW.out _).mono ?_
  rintro r w8 ⟨a8, l8, c8, d8, rfl, h8, hl8, hb8⟩
  have p1 := cellLater hb8 p1
  have H8 := hidden h8
  have H78 := hidden (H7.out.later hb8)
  have HB8 := hidden (HB7.out.trans (hb8.mono HB7.out.size))
  clear h8 hb8 p0 p2' p3
  go_wp2_with fail
  refine (cmp_any a8 a7 l8 c8 l7 c7 d8 d7 _ H8.out.rd H78.out.rd H8.out.ok H78.out.ok (by omega) (by omega)).mono ?_
  rintro r w9 ⟨rfl, hb9⟩
  rw [H8.out.val, H78.out.val]
  have p1 := cellLater hb9 p1
  have H89 := hidden (H8.out.later hb9)
  have H79 := hidden (H78.out.later hb9)
  have HB9 := hidden (HB8.out.trans (hb9.mono HB8.out.size))
  clear hb9
  have hcm : ¬ 0 < cmpI N 1099511627776 := by unfold cmpI; split <;> (try split) <;> omega
  generalize cmpI N 1099511627776 = CC at *
  have HSm := hidden (fun (W : World) (h : Below w9.heap.size w9 W) => small_has (H89.out.later h) (by omega) (by omega))
  go_upto_region 10 with fail
  go_quiet (exact Calls.quiet_of_same (HSm.out _ (below_drewN (Below.refl _ _) _)))
  go_wp2
  go_ret3
  exact ⟨rfl, below_drewN HB9.out _⟩
theorem rwhole_many (m x a K E M N : Int) (n near beh : Bool) (L : Nat) (w : World) (hL : L ≤ 5000) (hN0 : 0 ≤ N)
    (HO : Hid (∀ w, Calls Tryd.prog 45 #[.agg #[.int .i64 m, .int .i64 x], .int .u64 a] w fun r w' => r = .returned (.tuple #[partsV K n E M, .int .i64 0]) ∧ Below w.heap.size w w'))
    (HW : Hid (∀ w, Calls Tryd.prog 47 #[partsV K n E M, .bool near] w fun r w' => WholeRet w N beh L r w'))
    (k4 : (K == 4) = false) (k3 : (K == 3) = false) (hN : 1099511627776 < N) :
    Calls Tryd.prog 23 #[.agg #[.int .i64 m, .int .i64 x], .int .u64 a, .bool near] w fun r w' => r = .returned (.tuple #[.int .u64 1099511627776, .bool n, .int .i64 0]) ∧ Below w.heap.size w w' := by
  go_enter Tryd.func23, Tryd.ntmps23
  go_wp2_with fail
  refine (HO.out _).mono ?_
  rintro r w1 ⟨rfl, hb1⟩
  obtain ⟨w5, hw5, hx, c0, c1, p0, p1, p2', p3⟩ := ropen_box m x K E M n w w1 hb1
  have HB := hidden hx
  clear hx hb1
  go_upto_region 2 with fail
  change Code.wp _ _ _ _ (w1.alloc (.cells #[.int .i64 K, .bool n, .int .i64 E, .int .u64 M] 78))
  rw [← hw5]
  clear hw5
  go_wp2_with fail
  refine (one_has _).mono ?_
  rintro r w6 ⟨a6, l6, c6, d6, rfl, h6, hl6, hb6⟩
  have p0 := cellLater hb6 p0
  have p1 := cellLater hb6 p1
  have p2' := cellLater hb6 p2'
  have p3 := cellLater hb6 p3
  have H6 := hidden h6
  have HB6 := hidden (HB.out.trans (hb6.mono HB.out.size))
  clear h6 hb6 c0 c1
  go_wp2_with fail
  refine (up_has H6.out 40 (by omega) (by omega)).mono ?_
  rintro r w7 ⟨a7, l7, c7, d7, rfl, h7, hl7, hb7⟩
  rw [Int.one_mul, show p2 40 = 1099511627776 by decide +kernel] at h7
  have p0 := cellLater hb7 p0
  have p1 := cellLater hb7 p1
  have p2' := cellLater hb7 p2'
  have p3 := cellLater hb7 p3
  have H7 := hidden h7
  have HB7 := hidden (HB6.out.trans (hb7.mono HB6.out.size))
  clear h7 hb7
  go_wp2_with fail
  refine (HW.out _).mono ?_
  rintro r w8 ⟨a8, l8, c8, d8, rfl, h8, hl8, hb8⟩
  have p1 := cellLater hb8 p1
  have H8 := hidden h8
  have H78 := hidden (H7.out.later hb8)
  have HB8 := hidden (HB7.out.trans (hb8.mono HB7.out.size))
  clear h8 hb8 p0 p2' p3
  go_wp2_with fail
  refine (cmp_any a8 a7 l8 c8 l7 c7 d8 d7 _ H8.out.rd H78.out.rd H8.out.ok H78.out.ok (by omega) (by omega)).mono ?_
  rintro r w9 ⟨rfl, hb9⟩
  rw [H8.out.val, H78.out.val]
  have p1 := cellLater hb9 p1
  have H89 := hidden (H8.out.later hb9)
  have H79 := hidden (H78.out.later hb9)
  have HB9 := hidden (HB8.out.trans (hb9.mono HB8.out.size))
  clear hb9
  have hcm : 0 < cmpI N 1099511627776 := by unfold cmpI; split <;> (try split) <;> omega
  generalize cmpI N 1099511627776 = CC at *
  have HSm := hidden (fun (W : World) (h : Below w9.heap.size w9 W) => small_has (H79.out.later h) (by omega) (by omega))
  go_upto_region 10 with fail
  go_quiet (exact Calls.quiet_of_same (HSm.out _ (below_drewN (Below.refl _ _) _)))
  go_wp2
  go_ret3
  exact ⟨rfl, below_drewN HB9.out _⟩
end Go.Proofs.YtfjpiahgnojlhaaDoor
namespace Go.Proofs.YtfjpiahgnojlhaaDoor
open Go.RowKit
set_option maxRecDepth 100000
set_option maxHeartbeats 400000
set_option linter.unusedVariables false

/-- a slice of digits that is a number (as in the text on Div, which this seat may lack) -/
theorem has_of5 {w : World} {a : Option Addr} {l c : Nat} {ds : List Int} {N : Int} (rt : RdD w a l c ds) (kt : OkD ds) (vt : nv ds = N) (tt : l = 0 ∨ ds.getD (l - 1) 0 ≠ 0) : HasNat w a l c ds N := ⟨rt, kt, vt, tt⟩
theorem one_has3 (w : World) : Calls Tryd.prog 46 #[] w fun r w' => ∃ a2 l2 c2 d2, r = .returned (.slice a2 l2 c2) ∧ HasNat w' a2 l2 c2 d2 1 ∧ l2 ≤ 1 ∧ Below w.heap.size w w' := by
  refine (one_any w).mono ?_
  rintro r w' ⟨rfl, rfl⟩
  exact ⟨_, _, _, [1], rfl, ⟨rd_one w, fun d hd => by simp at hd; omega, by simp [nv], .inr (by decide)⟩, Nat.le_refl _, (Below.refl _ _).alloc (Nat.le_refl _) _⟩
theorem ropen_box2 (m x m2 x2 K E M : Int) (n : Bool) (w w1 : World) (hb : Below ((w.alloc (.cells #[.int .i64 m, .int .i64 x] 40)).alloc (.cells #[.int .i64 m2, .int .i64 x2] 40)).heap.size ((w.alloc (.cells #[.int .i64 m, .int .i64 x] 40)).alloc (.cells #[.int .i64 m2, .int .i64 x2] 40)) w1) :
    ∃ w5, w5 = w1.alloc (.cells #[.int .i64 K, .bool n, .int .i64 E, .int .u64 M] 78) ∧ Below w.heap.size w w5 ∧ w5.cell? ⟨w.heap.size + 1, 0, none⟩ = some (.int .i64 m2) ∧ w5.cell? ⟨w.heap.size + 1, 1, none⟩ = some (.int .i64 x2) ∧
      w5.cell? ⟨w1.heap.size, 0, none⟩ = some (.int .i64 K) ∧ w5.cell? ⟨w1.heap.size, 1, none⟩ = some (.bool n) ∧ w5.cell? ⟨w1.heap.size, 2, none⟩ = some (.int .i64 E) ∧ w5.cell? ⟨w1.heap.size, 3, none⟩ = some (.int .u64 M) := by
  have hW : Below w.heap.size w ((w.alloc (.cells #[.int .i64 m, .int .i64 x] 40)).alloc (.cells #[.int .i64 m2, .int .i64 x2] 40)) := ((Below.refl _ _).alloc (Nat.le_refl _) _).alloc (by simp) _
  have hB := hW.trans (hb.mono hW.size)
  have d0 : w1.cell? ⟨w.heap.size + 1, 0, none⟩ = some (.int .i64 m2) := cellLater hb (by simp)
  have d1 : w1.cell? ⟨w.heap.size + 1, 1, none⟩ = some (.int .i64 x2) := cellLater hb (by simp)
  have hZ : Below w1.heap.size w1 (w1.alloc (.cells #[.int .i64 K, .bool n, .int .i64 E, .int .u64 M] 78)) := (Below.refl _ _).alloc (Nat.le_refl _) _
  obtain ⟨p0, p1, p2, p3, -⟩ := ps_fresh w1 K E M n
  exact ⟨_, rfl, hB.trans (hZ.mono hB.size), cellLater hZ d0, cellLater hZ d1, p0, p1, p2, p3⟩
theorem rconv_err (m x m2 x2 a : Int) (w : World)
    (HO : Hid (∀ w, Calls Tryd.prog 45 #[.agg #[.int .i64 m, .int .i64 x], .int .u64 a] w fun r w' => r = .returned (.tuple #[partsV 0 false 0 0, .int .i64 1]) ∧ Below w.heap.size w w')) :
    Calls Tryd.prog 30 #[.agg #[.int .i64 m, .int .i64 x], .agg #[.int .i64 m2, .int .i64 x2], .int .u64 a] w fun r w' => r = .returned (.tuple #[.int .u64 0, .int .i64 1]) ∧ Below w.heap.size w w' := by
  go_enter Tryd.func30, Tryd.ntmps30
  go_wp2_with fail
  refine (HO.out _).mono ?_
  rintro r w1 ⟨rfl, hb1⟩
  have hW : Below w.heap.size w ((w.alloc (.cells #[.int .i64 m, .int .i64 x] 40)).alloc (.cells #[.int .i64 m2, .int .i64 x2] 40)) := ((Below.refl _ _).alloc (Nat.le_refl _) _).alloc (by simp) _
  have HB1 := hidden (hW.trans (hb1.mono hW.size))
  clear hb1 hW
  go_wp2
  go_ret2
  exact ⟨rfl, HB1.out.alloc HB1.out.size _⟩
theorem rconv_no (m x m2 x2 a K E M : Int) (n : Bool) (w : World)
    (HO : Hid (∀ w, Calls Tryd.prog 45 #[.agg #[.int .i64 m, .int .i64 x], .int .u64 a] w fun r w' => r = .returned (.tuple #[partsV K n E M, .int .i64 0]) ∧ Below w.heap.size w w'))
    (HC : Hid (∀ w, Calls Tryd.prog 52 #[.agg #[.int .i64 m2, .int .i64 x2]] w fun r w' => r = .returned (.int .i64 1) ∧ Below w.heap.size w w'))
    : Calls Tryd.prog 30 #[.agg #[.int .i64 m, .int .i64 x], .agg #[.int .i64 m2, .int .i64 x2], .int .u64 a] w fun r w' => r = .returned (.tuple #[.int .u64 0, .int .i64 1]) ∧ Below w.heap.size w w' := by
  go_enter Tryd.func30, Tryd.ntmps30
  go_wp2_with fail
  refine (HO.out _).mono ?_
  rintro r w1 ⟨rfl, hb1⟩
  obtain ⟨w5, hw5, hx, c0, c1, p0, p1, p2', p3⟩ := ropen_box2 m x m2 x2 K E M n w w1 hb1
  have HB := hidden hx
  clear hx hb1
  go_upto_region 2 with fail
  change Code.wp _ _ _ _ (w1.alloc (.cells #[.int .i64 K, .bool n, .int .i64 E, .int .u64 M] 78))
  rw [← hw5]
  clear hw5
  go_wp2_with (first | (go_at_call 52; refine (HC.out _).mono ?_; rintro r w9 ⟨rfl, hb⟩; have zz := six_later hb ⟨c0, c1, p0, p1, p2', p3⟩; clear c0 c1 p0 p1 p2' p3; obtain ⟨c0, c1, p0, p1, p2', p3⟩ := zz; have HB := hidden (HB.out.trans (hb.mono HB.out.size)); clear hb))
  go_ret2
  exact ⟨rfl, HB.out⟩
theorem rconv_nan (m x m2 x2 a K E M R : Int) (n : Bool) (w : World)
    (HO : Hid (∀ w, Calls Tryd.prog 45 #[.agg #[.int .i64 m, .int .i64 x], .int .u64 a] w fun r w' => r = .returned (.tuple #[partsV K n E M, .int .i64 0]) ∧ Below w.heap.size w w'))
    (HC : Hid (∀ w, Calls Tryd.prog 52 #[.agg #[.int .i64 m2, .int .i64 x2]] w fun r w' => r = .returned (.int .i64 0) ∧ Below w.heap.size w w'))
    (HN : Hid (∀ w, Calls Tryd.prog 53 #[.agg #[.int .i64 m2, .int .i64 x2]] w fun r w' => r = .returned (.int .u64 R) ∧ Below w.heap.size w w'))
    (k4 : (K == 4) = true)
    : Calls Tryd.prog 30 #[.agg #[.int .i64 m, .int .i64 x], .agg #[.int .i64 m2, .int .i64 x2], .int .u64 a] w fun r w' => r = .returned (.tuple #[.int .u64 R, .int .i64 0]) ∧ Below w.heap.size w w' := by
  go_enter Tryd.func30, Tryd.ntmps30
  go_wp2_with fail
  refine (HO.out _).mono ?_
  rintro r w1 ⟨rfl, hb1⟩
  obtain ⟨w5, hw5, hx, c0, c1, p0, p1, p2', p3⟩ := ropen_box2 m x m2 x2 K E M n w w1 hb1
  have HB := hidden hx
  clear hx hb1
  go_upto_region 2 with fail
  change Code.wp _ _ _ _ (w1.alloc (.cells #[.int .i64 K, .bool n, .int .i64 E, .int .u64 M] 78))
  rw [← hw5]
  clear hw5
  go_wp2_with (first | (go_at_call 52; refine (HC.out _).mono ?_; rintro r w9 ⟨rfl, hb⟩; have zz := six_later hb ⟨c0, c1, p0, p1, p2', p3⟩; clear c0 c1 p0 p1 p2' p3; obtain ⟨c0, c1, p0, p1, p2', p3⟩ := zz; have HB := hidden (HB.out.trans (hb.mono HB.out.size)); clear hb) | (go_at_call 53; refine (HN.out _).mono ?_; rintro r w9 ⟨rfl, hb⟩; have zz := six_later hb ⟨c0, c1, p0, p1, p2', p3⟩; clear c0 c1 p0 p1 p2' p3; obtain ⟨c0, c1, p0, p1, p2', p3⟩ := zz; have HB := hidden (HB.out.trans (hb.mono HB.out.size)); clear hb))
  go_ret2
  exact ⟨rfl, HB.out⟩
theorem rconv_inf (m x m2 x2 a K E M R : Int) (n : Bool) (w : World)
    (HO : Hid (∀ w, Calls Tryd.prog 45 #[.agg #[.int .i64 m, .int .i64 x], .int .u64 a] w fun r w' => r = .returned (.tuple #[partsV K n E M, .int .i64 0]) ∧ Below w.heap.size w w'))
    (HC : Hid (∀ w, Calls Tryd.prog 52 #[.agg #[.int .i64 m2, .int .i64 x2]] w fun r w' => r = .returned (.int .i64 0) ∧ Below w.heap.size w w'))
    (HI : Hid (∀ w, Calls Tryd.prog 43 #[.agg #[.int .i64 m2, .int .i64 x2], .bool n] w fun r w' => r = .returned (.int .u64 R) ∧ Below w.heap.size w w'))
    (k4 : (K == 4) = false)
    (k3 : (K == 3) = true)
    : Calls Tryd.prog 30 #[.agg #[.int .i64 m, .int .i64 x], .agg #[.int .i64 m2, .int .i64 x2], .int .u64 a] w fun r w' => r = .returned (.tuple #[.int .u64 R, .int .i64 0]) ∧ Below w.heap.size w w' := by
  go_enter Tryd.func30, Tryd.ntmps30
  go_wp2_with fail
  refine (HO.out _).mono ?_
  rintro r w1 ⟨rfl, hb1⟩
  obtain ⟨w5, hw5, hx, c0, c1, p0, p1, p2', p3⟩ := ropen_box2 m x m2 x2 K E M n w w1 hb1
  have HB := hidden hx
  clear hx hb1
  go_upto_region 2 with fail
  change Code.wp _ _ _ _ (w1.alloc (.cells #[.int .i64 K, .bool n, .int .i64 E, .int .u64 M] 78))
  rw [← hw5]
  clear hw5
  go_wp2_with (first | (go_at_call 52; refine (HC.out _).mono ?_; rintro r w9 ⟨rfl, hb⟩; have zz := six_later hb ⟨c0, c1, p0, p1, p2', p3⟩; clear c0 c1 p0 p1 p2' p3; obtain ⟨c0, c1, p0, p1, p2', p3⟩ := zz; have HB := hidden (HB.out.trans (hb.mono HB.out.size)); clear hb) | (go_at_call 43; refine (HI.out _).mono ?_; rintro r w9 ⟨rfl, hb⟩; have zz := six_later hb ⟨c0, c1, p0, p1, p2', p3⟩; clear c0 c1 p0 p1 p2' p3; obtain ⟨c0, c1, p0, p1, p2', p3⟩ := zz; have HB := hidden (HB.out.trans (hb.mono HB.out.size)); clear hb))
  go_ret2
  exact ⟨rfl, HB.out⟩
theorem rconv_num (m x : Int) (m2 x2 : Nat) (a K E M : Int) (n : Bool) (w : World) (hok : okF m2 x2) (a0 : 0 ≤ M) (a1 : M ≤ 18446744073709551615) (e0 : -2000 ≤ E ∧ E ≤ 2000)
    (HO : Hid (∀ w, Calls Tryd.prog 45 #[.agg #[.int .i64 m, .int .i64 x], .int .u64 a] w fun r w' => r = .returned (.tuple #[partsV K n E M, .int .i64 0]) ∧ Below w.heap.size w w'))
    (HC : Hid (∀ w, Calls Tryd.prog 52 #[.agg #[.int .i64 (m2 : Int), .int .i64 (x2 : Int)]] w fun r w' => r = .returned (.int .i64 0) ∧ Below w.heap.size w w'))
    (k4 : (K == 4) = false)
    (k3 : (K == 3) = false)
    : Calls Tryd.prog 30 #[.agg #[.int .i64 m, .int .i64 x], .agg #[.int .i64 (m2 : Int), .int .i64 (x2 : Int)], .int .u64 a] w fun r w' => ∃ P, r = .returned (.tuple #[.int .u64 (P + sgnW n (m2 + x2)), .int .i64 0]) ∧ ((M = 0 ∧ P = 0) ∨ (0 < M ∧ IsNear m2 x2 M 1 E P)) ∧ Below w.heap.size w w' := by
  go_enter Tryd.func30, Tryd.ntmps30
  go_wp2_with fail
  refine (HO.out _).mono ?_
  rintro r w1 ⟨rfl, hb1⟩
  obtain ⟨w5, hw5, hx, c0, c1, p0, p1, p2', p3⟩ := ropen_box2 m x m2 x2 K E M n w w1 hb1
  have HB := hidden hx
  clear hx hb1
  go_upto_region 2 with fail
  change Code.wp _ _ _ _ (w1.alloc (.cells #[.int .i64 K, .bool n, .int .i64 E, .int .u64 M] 78))
  rw [← hw5]
  clear hw5
  go_wp2_with (first | (go_at_call 52; refine (HC.out _).mono ?_; rintro r w4 ⟨rfl, hb⟩; have zz := six_later hb ⟨c0, c1, p0, p1, p2', p3⟩; clear c0 c1 p0 p1 p2' p3; obtain ⟨c0, c1, p0, p1, p2', p3⟩ := zz; have HB := hidden (HB.out.trans (hb.mono HB.out.size)); clear hb))
  go_region_held3 (fun w' => w'.cell? ⟨w.heap.size + 1, 0, none⟩ = some (.int .i64 (m2 : Int)) ∧ w'.cell? ⟨w.heap.size + 1, 1, none⟩ = some (.int .i64 (x2 : Int)) ∧ w'.cell? ⟨w1.heap.size, 1, none⟩ = some (.bool n) ∧ w'.cell? ⟨w1.heap.size, 2, none⟩ = some (.int .i64 E) ∧ w'.cell? ⟨w1.heap.size, 3, none⟩ = some (.int .u64 M)) (go_keep) (first | (go_at_call 20; refine (natOf_any M _ a0 a1).mono ?_; rintro r w6 ⟨ah, lh, ch, dh, rfl, rh, kh, vh, lbh, th, hb6, -⟩; have c0 : w6.cell? ⟨w.heap.size + 1, 0, none⟩ = some (.int .i64 (m2 : Int)) := cellLater hb6 (by go_keep); have c1 : w6.cell? ⟨w.heap.size + 1, 1, none⟩ = some (.int .i64 (x2 : Int)) := cellLater hb6 (by go_keep); have p1 : w6.cell? ⟨w1.heap.size, 1, none⟩ = some (.bool n) := cellLater hb6 (by go_keep); have p2' : w6.cell? ⟨w1.heap.size, 2, none⟩ = some (.int .i64 E) := cellLater hb6 (by go_keep); have p3 : w6.cell? ⟨w1.heap.size, 3, none⟩ = some (.int .u64 M) := cellLater hb6 (by go_keep); have HT := hidden (has_of5 rh kh vh th)) | (go_at_call 46; refine (one_has3 _).mono ?_; rintro r w9 ⟨ao, lo, co, do', rfl, ho, hlo, hb9⟩; have c0 : w9.cell? ⟨w.heap.size + 1, 0, none⟩ = some (.int .i64 (m2 : Int)) := cellLater hb9 (by go_keep); have c1 : w9.cell? ⟨w.heap.size + 1, 1, none⟩ = some (.int .i64 (x2 : Int)) := cellLater hb9 (by go_keep); have p1 : w9.cell? ⟨w1.heap.size, 1, none⟩ = some (.bool n) := cellLater hb9 (by go_keep); have p2' : w9.cell? ⟨w1.heap.size, 2, none⟩ = some (.int .i64 E) := cellLater hb9 (by go_keep); have p3 : w9.cell? ⟨w1.heap.size, 3, none⟩ = some (.int .u64 M) := cellLater hb9 (by go_keep); have HT := hidden (HT.out.later hb9); have HO1 := hidden ho) | (go_at_call 18; refine (near_any m2 x2 n _ _ _ _ _ _ _ _ M 1 E _ hok HT.out HO1.out (by omega) (by omega) (by omega) (by omega) (by omega)).mono ?_; rintro r w10 ⟨P, rfl, hP, hb10⟩; have c0 : w10.cell? ⟨w.heap.size + 1, 0, none⟩ = some (.int .i64 (m2 : Int)) := cellLater hb10 (by go_keep); have c1 : w10.cell? ⟨w.heap.size + 1, 1, none⟩ = some (.int .i64 (x2 : Int)) := cellLater hb10 (by go_keep); have p1 : w10.cell? ⟨w1.heap.size, 1, none⟩ = some (.bool n) := cellLater hb10 (by go_keep); have p2' : w10.cell? ⟨w1.heap.size, 2, none⟩ = some (.int .i64 E) := cellLater hb10 (by go_keep); have p3 : w10.cell? ⟨w1.heap.size, 3, none⟩ = some (.int .u64 M) := cellLater hb10 (by go_keep)))
  all_goals
    have h0 := HB.out.drew
    have h1 := h0.trans (hb6.mono h0.size)
    have h4 := h1.trans (hb9.mono h1.size)
    have h5 := h4.trans (hb10.mono h4.size)
    have HF := hidden h5
    have HPP := hidden hP
    clear h0 h1 h4 h5 hb6 hb9 hb10 hP
    go_wp2
    go_ret2
    exact ⟨P, rfl, HPP.out, HF.out⟩
end Go.Proofs.YtfjpiahgnojlhaaDoor
