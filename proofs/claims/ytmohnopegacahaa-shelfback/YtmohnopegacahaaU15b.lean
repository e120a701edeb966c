/- Layer 15, the program: the page's example holds. -/
import Derived.Test.YtmohnopegacahaaU15a
namespace Go.Proofs.Ytmohnopegacahaa
open Go.RowKit
set_option maxHeartbeats 1000000
set_option maxRecDepth 100000
set_option linter.unusedVariables false

theorem num15 (x : Int) (w : World) (h0 : 0 ≤ x) (h1 : x ≤ 100) : Calls Try.prog 10 #[.int .i64 x] w fun e w' => e = .returned (.int .i64 x) ∧ w' = w := by
  have hw : IntKind.i64.wrap x = x := by rw [IntKind.wrap_i64]; omega
  go_enter Try.func10, Try.ntmps10
  go_wp2
  go_ret
  first | exact ⟨rfl, rfl⟩ | exact ⟨by rw [hw], rfl⟩
set_option maxHeartbeats 4000000 in
theorem same_two (g c g2 c2 : Nat) (w : World) (a1 : w.cell? ⟨g, 0, none⟩ = some (.int .u32 1)) (a2 : w.cell? ⟨g, 1, none⟩ = some (.int .u32 2)) (b1 : w.cell? ⟨g2, 0, none⟩ = some (.int .u32 1)) (b2 : w.cell? ⟨g2, 1, none⟩ = some (.int .u32 2)) :
    Calls Try.prog 22 #[.slice (some ⟨g, 0, none⟩) 2 c, .slice (some ⟨g2, 0, none⟩) 2 c2] w fun e w' => e = .returned (.bool true) ∧ Below w.heap.size w w' := by
  have HC : Hid (∀ w1, Below w.heap.size w w1 → w1.cell? ⟨g, 0, none⟩ = some (.int .u32 1) ∧ w1.cell? ⟨g, 1, none⟩ = some (.int .u32 2) ∧ w1.cell? ⟨g2, 0, none⟩ = some (.int .u32 1) ∧ w1.cell? ⟨g2, 1, none⟩ = some (.int .u32 2)) := hidden (fun w1 hb => by
    have lt : ∀ {b i : Nat} {u : Value}, w.cell? ⟨b, i, none⟩ = some u → b < w.heap.size := fun {b i u} q => by
      unfold World.cell? at q
      simp only at q
      cases hq : w.heap[b]? with
      | none => rw [hq] at q; simp at q
      | some o => exact (Array.getElem?_eq_some_iff.1 hq).1
    exact ⟨by rw [World.cell?_of_block (hb.block _ (lt a1))]; exact a1, by rw [World.cell?_of_block (hb.block _ (lt a2))]; exact a2, by rw [World.cell?_of_block (hb.block _ (lt b1))]; exact b1, by rw [World.cell?_of_block (hb.block _ (lt b2))]; exact b2⟩)
  clear a1 a2 b1 b2
  go_enter Try.func22, Try.ntmps22
  go_upto_region 4 with fail
  go_loopw [5] (fun i w' => ∃ k : Nat, k ≤ 2 ∧ i = .int .i64 k ∧ Hid (Below w.heap.size w w')) (fun i _ => 2 - (intOf i).toNat)
  case atStart => exact ⟨0, by omega, rfl, hidden (Below.refl _ _)⟩
  case round =>
    obtain ⟨k, hk, rfl, HB⟩ := hrel
    obtain ⟨a1, a2, b1, b2⟩ := HC.out _ HB.out
    have HBd := hidden HB.out.drew
    clear HC
    rcases (show k = 0 ∨ k = 1 ∨ k = 2 by omega) with rfl | rfl | rfl
    · (try simp only [Int.natCast_zero])
      go_upto_region 6 with fail
      go_region_held3 (fun w' => w'.cell? ⟨g, 0, none⟩ = some (.int .u32 1) ∧ w'.cell? ⟨g2, 0, none⟩ = some (.int .u32 1)) (first | assumption | exact ⟨by assumption, by assumption⟩ | go_keep) (fail)
      all_goals
       go_wp2
       go_roundw
       case rel => exact ⟨1, by omega, by first | rfl | go_num, by first | exact HB | exact HBd⟩
       case measure => simp [intOf]
    · go_upto_region 6 with fail
      go_region_held3 (fun w' => w'.cell? ⟨g, 1, none⟩ = some (.int .u32 2) ∧ w'.cell? ⟨g2, 1, none⟩ = some (.int .u32 2)) (first | assumption | exact ⟨by assumption, by assumption⟩ | go_keep) (fail)
      all_goals
       go_wp2
       go_roundw
       case rel => exact ⟨2, by omega, by first | rfl | go_num, by first | exact HB | exact HBd⟩
       case measure => simp [intOf]
    · go_wp2
      go_ret
      exact ⟨rfl, HB.out⟩
set_option maxHeartbeats 4000000 in
theorem live_any (w : World) : Calls Try.prog 11 #[] w fun e w' => e = .returned (.bool true) ∧ Below w.heap.size w w' := by
  have HN := hidden (lv_new w)
  have H1 : Hid (∀ w1, Lv w.heap.size w w1 P0 → _) := hidden (fun w1 h => lv_open (B := w.heap.size) (w := w) (w1 := w1) h)
  have H2 : Hid (∀ w1, Lv w.heap.size w w1 P1 → _) := hidden (fun w1 h => lv_write (B := w.heap.size) (w := w) (w1 := w1) h)
  have H3 : Hid (∀ w1, Lv w.heap.size w w1 P2 → _) := hidden (fun w1 h => lv_tell (B := w.heap.size) (w := w) (w1 := w1) h)
  have H4 : Hid (∀ w1, Lv w.heap.size w w1 P2 → _) := hidden (fun w1 h => lv_close1 (B := w.heap.size) (w := w) (w1 := w1) h)
  have H5 : Hid (∀ w1, Lv w.heap.size w w1 P3 → _) := hidden (fun w1 h => lv_get (B := w.heap.size) (w := w) (w1 := w1) h)
  have H6 : Hid (∀ w1 v0, Lv2 w.heap.size w w1 P3 v0 → _) := hidden (fun w1 v0 h => lv_buffer (B := w.heap.size) (w := w) (w1 := w1) (v0 := v0) h)
  have H7 : Hid (∀ w1 v0, Lv2 w.heap.size w w1 P4 v0 → _) := hidden (fun w1 v0 h => lv_write2 (B := w.heap.size) (w := w) (w1 := w1) (v0 := v0) h)
  have H8 : Hid (∀ w1 v0, Lv2 w.heap.size w w1 P5 v0 → _) := hidden (fun w1 v0 h => lv_close2 (B := w.heap.size) (w := w) (w1 := w1) (v0 := v0) h)
  have HU := hidden (fun w1 => num15 0 w1 (by omega) (by omega))
  obtain ⟨B, hB⟩ : ∃ B, w.heap.size = B := ⟨_, rfl⟩
  rw [hB] at HN H1 H2 H3 H4 H5 H6 H7 H8 ⊢
  have HBW := hidden (Nat.le_of_eq hB.symm)
  clear hB
  go_enter Try.func11, Try.ntmps11
  go_upto_region 2 with (first | (go_at_call 9; refine HN.out.mono ?_; rintro e w1 ⟨rfl, HL1⟩) | fail)
  clear HN
  go_upto_region 4 with (first | (go_at_call 10; refine (HU.out _).mono ?_; rintro e w2 ⟨rfl, e2⟩; rw [e2]; clear e2) | fail)
  go_upto_region 5 with (first | (go_at_call 12; refine (H1.out _ HL1.out).mono ?_; rintro e w2 ⟨rfl, HL2⟩) | fail)
  clear H1 HL1
  go_upto_region 6 with (first | (go_at_call 14; refine (H2.out _ HL2.out).mono ?_; rintro e w3 ⟨rfl, HL3⟩) | fail)
  clear H2 HL2
  go_upto_region 7 with (first | (go_at_call 15; refine (H3.out _ HL3.out).mono ?_; rintro e w4 ⟨rfl, HL4⟩) | fail)
  clear H3 HL3
  go_upto_region 8 with (first | (go_at_call 13; refine (H4.out _ HL4.out).mono ?_; rintro e w5 ⟨rfl, HL5⟩) | fail)
  clear H4 HL4
  go_upto_region 9 with (first | (go_at_call 20; refine (H5.out _ HL5.out).mono ?_; rintro e w6 ⟨ga, gc, rfl, HL6⟩) | fail)
  clear H5 HL5
  go_upto_region 10 with (first | (go_at_call 21; refine (H6.out _ _ HL6.out).mono ?_; rintro e w7 ⟨rfl, HL7⟩) | fail)
  clear H6 HL6
  go_upto_region 11 with (first | (go_at_call 14; refine (H7.out _ _ HL7.out).mono ?_; rintro e w8 ⟨rfl, HL8⟩) | fail)
  clear H7 HL7
  go_upto_region 12 with (first | (go_at_call 13; refine (H8.out _ _ HL8.out).mono ?_; rintro e w9 ⟨la, lc, rfl, HL9⟩) | fail)
  clear H8 HL8
  obtain ⟨lg, hlg⟩ : ∃ lg, la = some ⟨lg, 0, none⟩ := by
    rcases HL9.out.2.1.2 with ⟨q, q2⟩ | ⟨g', cap, cur, q, _⟩
    · cases q2
    · injection q with q
      exact ⟨g', q⟩
  subst hlg
  have hcv : (convert 41 9 (.slice ga 2 gc)).run Try.prog w9 = .ok (.string ⟨#[72, 63]⟩) w9 := by
    have h := conv_reads w9 ga 2 gc [72, 63] (by intro c hc; simp at hc; omega) (own_read8 (v := .slice ga 2 gc) HL9.out.2.2)
    rw [h]
    rfl
  have HS : Hid (Calls Try.prog 22 #[.slice (some ⟨lg, 0, none⟩) 2 lc, .slice (some ⟨w9.heap.size, 0, none⟩) 2 2] (w9.alloc (.cells #[.int .u32 1, .int .u32 2] 32)) fun e w' => e = .returned (.bool true) ∧ Hid (Below B w w')) := hidden (by
    have ha : Below w9.heap.size w9 (w9.alloc (.cells #[.int .u32 1, .int .u32 2] 32)) := (Below.refl _ _).alloc (Nat.le_refl _) _
    have ho := own_later HL9.out.2.1 ha
    have hc := ho.cells (g := lg) rfl
    have hn := heap_alloc_new w9 (.cells #[.int .u32 1, .int .u32 2] 32)
    refine (same_two lg lc w9.heap.size 2 _ (hc 0 _ rfl) (hc 1 _ rfl) (by unfold World.cell?; rw [hn]; rfl) (by unfold World.cell?; rw [hn]; rfl)).mono ?_
    rintro e w' ⟨rfl, hb⟩
    have hBs : B ≤ w9.heap.size := Nat.le_trans HBW.out HL9.out.1.size
    exact ⟨rfl, hidden ((HL9.out.1.trans (ha.mono hBs)).trans (hb.mono (Nat.le_trans hBs ha.size)))⟩)
  clear HL9
  go_wp2_with (first | (go_at_call 10; refine (HU.out _).mono ?_; rintro e w2 ⟨rfl, e2⟩; rw [e2]; clear e2) | (go_at_call 22; refine HS.out.mono ?_; rintro e w3 ⟨rfl, HB3⟩) | fail)
  go_ret
  exact ⟨rfl, HB3.out⟩
end Go.Proofs.Ytmohnopegacahaa
