/- The walk of CodeEncodes: how any instruction is laid is as the document says. -/
import Derived.Test.YtpkfmccnjandoaaB11t
namespace Go.Proofs.Ytpkfmccnjandoaa
open Go.RowKit
set_option maxHeartbeats 1000000
set_option maxRecDepth 100000
set_option linter.unusedVariables false
theorem enc_both (op : Int) (a : Option Addr) (n c : Nat) (l : List Od) (w : World) (hOp : Ops w a n c l) (hn : n ≤ 100) (hvs : ∀ p ∈ l, 0 ≤ p.2 ∧ p.2 ≤ 4294967295) : ∃ (Z : List Int) (E : Int), OkB Z ∧
    (∀ wx, Below w.heap.size w wx → Calls Try.prog 16 #[.agg #[.int .u32 op, .slice a n c]] wx fun e w' => (∃ a3 c3, e = .returned (.tuple #[.slice a3 Z.length c3, .int .i64 E]) ∧ Reads w' a3 Z.length c3 Z) ∧ Below wx.heap.size wx w') ∧
    (∀ wx, Below w.heap.size w wx → Calls Try.prog 17 #[.agg #[.int .u32 op, .slice a n c]] wx fun e w' => (∃ a3 c3, e = .returned (.tuple #[.slice a3 Z.length c3, .int .i64 E]) ∧ Reads w' a3 Z.length c3 Z) ∧ Below wx.heap.size wx w') := by
  cases hok : encOk op l
  · refine ⟨[], 1, (fun x hx => by cases hx), fun wx hx => (enc_any op a n c l wx (hOp.later hx) (by omega)).mono ?_, fun wx hx => (denc_any op a n c l wx (hOp.later hx) (by omega) hvs).mono ?_⟩
    all_goals (
      rintro e w' ⟨h1, h2, -⟩
      exact ⟨⟨none, 0, h2 hok, rfl, Nat.le_refl _, .inl ⟨rfl, rfl, rfl⟩⟩, h1⟩)
  · refine ⟨encL op l, 0, (ok_enc hok).1, fun wx hx => (enc_any op a n c l wx (hOp.later hx) (by omega)).mono ?_, fun wx hx => (denc_any op a n c l wx (hOp.later hx) (by omega) hvs).mono ?_⟩
    all_goals (
      rintro e w' ⟨h1, -, h3⟩
      obtain ⟨a3, c3, he, ho⟩ := h3 hok
      exact ⟨⟨a3, c3, he, own_any ho rfl⟩, h1⟩)
theorem codeEncodes_walk (op : Int) (a : Option Addr) (n c : Nat) (l : List Od) (w : World) (hop : (Lit.int .u32 op).wf = true) (hods : IsOds w a n c l) :
    Calls Try.prog 4 #[.agg #[.int .u32 op, .slice a n c]] w fun e w' => e = .returned (.bool true) ∧ Below w.heap.size w w' := by
  obtain ⟨hOp, hvs⟩ := hods
  have HLV : Hid (∀ w1, Below w.heap.size w w1 → Calls Try.prog 9 #[] w1 fun e w' => e = .returned (.bool true) ∧ Below w.heap.size w w') := fun w1 hb => (live_any w1).mono (fun e w' hh => ⟨hh.1, hb.trans (hh.2.mono hb.size)⟩)
  have hbI : Below w.heap.size w (w.alloc (.cells #[.int .u32 op, .slice a n c] 28)) := (Below.refl _ _).alloc (Nat.le_refl _) _
  have hiI : IB (w.alloc (.cells #[.int .u32 op, .slice a n c] 28)) w.heap.size op a n c := heap_alloc_new _ _
  obtain ⟨k0, k1, _, _⟩ := ib_box hiI
  clear hop
  by_cases hn : n ≤ 100
  · have d1 : ¬ (n : Int) > 100 := by omega
    obtain ⟨Z, E, hZ, hek, hed⟩ := enc_both op a n c l w hOp hn hvs
    have HEk := hidden hek
    have HEd := hidden hed
    have HZ := hidden hZ
    have HOps := hidden hOp
    have HBI := hidden hbI
    have HII := hidden hiI
    have hsI : (w.alloc (.cells #[.int .u32 op, .slice a n c] 28)).heap.size = w.heap.size + 1 := World.size_alloc _ _
    have HO0 : Hid (((w.alloc (.cells #[.int .u32 op, .slice a n c] 28)).alloc (.cells #[] 54)).ownsRow (w.heap.size + 1) 54 2 (.slice (some ⟨w.heap.size + 1, 0, none⟩) 0 0) 0 []) := by
      have h := World.ownsRow_made (base := w.heap.size + 1) (e := 54) (size := 2) (w.alloc (.cells #[.int .u32 op, .slice a n c] 28)) #[] 0 (by rw [hsI]; exact Nat.le_refl _) (Nat.zero_le _) (by simp)
      rw [hsI] at h
      exact h
    have HB0 : Hid (Below (w.heap.size + 1) (w.alloc (.cells #[.int .u32 op, .slice a n c] 28)) ((w.alloc (.cells #[.int .u32 op, .slice a n c] 28)).alloc (.cells #[] 54))) := (Below.refl _ _).alloc (by rw [hsI]; exact Nat.le_refl _) _
    have HS0 : Hid (w.heap.size + 1 ≤ ((w.alloc (.cells #[.int .u32 op, .slice a n c] 28)).alloc (.cells #[] 54)).heap.size) := Nat.le_trans (by rw [hsI]; exact Nat.le_refl _) HB0.out.size
    have HN0 : Hid (∀ x, a = some x → ∀ j u, (opsC l)[j]? = some u → ((w.alloc (.cells #[.int .u32 op, .slice a n c] 28)).alloc (.cells #[] 54)).cell? (x.add j) = some u) := fun x hx => by
      subst hx
      exact ops_news (hOp.later (hbI.trans (HB0.out.mono (by omega))))
    have hlen : (opsC l).length = n * 2 := by rw [opsC_len, hOp.1]; omega
    have HNone : Hid (a = none → n = 0 ∧ l = []) := fun h => by
      have h0 : n = 0 := by
        rcases Nat.eq_zero_or_pos n with h0 | h0
        · exact h0
        · obtain ⟨g, o, e, _⟩ := hOp.2.2 h0
          rw [h] at e; cases e
      exact ⟨h0, List.eq_nil_of_length_eq_zero (by rw [hOp.1]; exact h0)⟩
    clear hek hed hZ hOp hbI hiI hvs hsI
    obtain ⟨i0, hi, hz0, hz1, hz2⟩ := infoOd_parts
    cases a with
    | none =>
      obtain ⟨rfl, rfl⟩ := HNone.out rfl
      clear HNone HN0 hlen
      have HP0 : Hid (Ops ((w.alloc (.cells #[.int .u32 op, .slice none 0 c] 28)).alloc (.cells #[] 54)) (some ⟨w.heap.size + 1, 0, none⟩) 0 0 []) := ⟨rfl, Nat.le_refl _, fun h => by omega⟩
      go_enter Try.func4, Try.ntmps4
      go_wp2_with (first
        | (at_builtin; refine wpList_ods_none rfl _ _ rfl (w.heap.size + 1) c rfl rfl ?_; have hbw : Below w.heap.size w ((w.alloc (.cells #[.int .u32 op, .slice none 0 c] 28)).alloc (.cells #[] 54)) := HBI.out.trans (HB0.out.mono (by omega)); have HB2 := hidden hbw; have HI2 : Hid (IB ((w.alloc (.cells #[.int .u32 op, .slice none 0 c] 28)).alloc (.cells #[] 54)) w.heap.size op none 0 c) := (HB0.out.block w.heap.size (by omega)).trans HII.out; obtain ⟨q0, q1, _, _⟩ := ib_box HI2.out; clear hbw)
        | (go_at_call 16; refine (HEk.out _ HB2.out).mono ?_; rintro e w3 ⟨⟨a3, c3, rfl, hr3⟩, hb3⟩; have HR3 := hidden hr3; have HB3 := hidden (HB2.out.trans (hb3.mono HB2.out.size)); have HP3 := hidden (HP0.out.later hb3); have HI3 := hidden (HI2.out.later hb3); obtain ⟨q2, q3, _, _⟩ := ib_box HI3.out; clear hr3 hb3)
        | (go_at_call 17; refine (HEd.out _ HB3.out).mono ?_; rintro e w4 ⟨⟨a4, c4, rfl, hr4⟩, hb4⟩; have HB4 := hidden (HB3.out.trans (hb4.mono HB3.out.size)); have HS := hidden (same_eq _ _ _ _ _ _ Z w4 HZ.out (HR3.out.later hb4) hr4); have HSo := hidden (same_od op none (some ⟨w.heap.size + 1, 0, none⟩) 0 c 0 [] w4 (HOps.out.later HB4.out) (HP3.out.later hb4) (by omega)); obtain ⟨q4, q5, _, _⟩ := ib_box (HI3.out.later hb4); clear hr4 hb4)
        | (go_at_call 18; refine HS.out.mono ?_; rintro e w5 ⟨rfl, hw⟩; obtain rfl := hw.symm; clear hw)
        | (go_at_call 14; refine (num11 _ _).mono ?_; rintro e w6 ⟨rfl, hw⟩; obtain rfl := hw.symm; clear hw)
        | (go_at_call 13; refine HSo.out.mono ?_; rintro e w7 ⟨rfl, hb7⟩; have HB7 := hidden (HB4.out.trans (hb7.mono HB4.out.size)); clear hb7)
        | (go_at_call 9; refine (HLV.out _ HB7.out).mono ?_; rintro e wl ⟨rfl, hbl⟩))
      go_ret
      exact ⟨rfl, hbl⟩
    | some x =>
      have HNx := hidden (HN0.out x rfl)
      clear HNone HN0
      go_enter Try.func4, Try.ntmps4
      go_wp2_with (first
        | (at_builtin; refine wpList_append_own _ rfl _ _ 26 rfl (w.heap.size + 1) 54 i0 (.agg #[.int .i64 0, .int .u32 0]) 2 16 Try.underlying26 hi hz0 hz1 hz2 rfl (by decide) _ _ _ rfl HO0.out x n c (opsC l) rfl hlen HNx.out (opsC_one _) (by unfold maxLen; omega) (by omega) HS0.out ?_; intro v2 w2 ho2 hg2 hi2; clear hi2; rw [Nat.zero_add, List.nil_append] at ho2; obtain ⟨a2, c2, rfl⟩ := orow_shape ho2; have hbw := HB0.out.grown hg2 HS0.out (fun j hj => by cases hj; exact Nat.le_refl _); have HP0 := hidden (orow_ops ho2); have HB2 := hidden (HBI.out.trans (hbw.mono (by omega))); have HI2 : Hid (IB w2 w.heap.size op (some x) n c) := (hbw.block w.heap.size (by omega)).trans HII.out; obtain ⟨q0, q1, _, _⟩ := ib_box HI2.out; clear ho2 hg2 hbw)
        | (go_at_call 16; refine (HEk.out _ HB2.out).mono ?_; rintro e w3 ⟨⟨a3, c3, rfl, hr3⟩, hb3⟩; have HR3 := hidden hr3; have HB3 := hidden (HB2.out.trans (hb3.mono HB2.out.size)); have HP3 := hidden (HP0.out.later hb3); have HI3 := hidden (HI2.out.later hb3); obtain ⟨q2, q3, _, _⟩ := ib_box HI3.out; clear hr3 hb3)
        | (go_at_call 17; refine (HEd.out _ HB3.out).mono ?_; rintro e w4 ⟨⟨a4, c4, rfl, hr4⟩, hb4⟩; have HB4 := hidden (HB3.out.trans (hb4.mono HB3.out.size)); have HS := hidden (same_eq _ _ _ _ _ _ Z w4 HZ.out (HR3.out.later hb4) hr4); have HSo := hidden (same_od op (some x) a2 n c c2 l w4 (HOps.out.later HB4.out) (HP3.out.later hb4) (by omega)); obtain ⟨q4, q5, _, _⟩ := ib_box (HI3.out.later hb4); clear hr4 hb4)
        | (go_at_call 18; refine HS.out.mono ?_; rintro e w5 ⟨rfl, hw⟩; obtain rfl := hw.symm; clear hw)
        | (go_at_call 14; refine (num11 _ _).mono ?_; rintro e w6 ⟨rfl, hw⟩; obtain rfl := hw.symm; clear hw)
        | (go_at_call 13; refine HSo.out.mono ?_; rintro e w7 ⟨rfl, hb7⟩; have HB7 := hidden (HB4.out.trans (hb7.mono HB4.out.size)); clear hb7)
        | (go_at_call 9; refine (HLV.out _ HB7.out).mono ?_; rintro e wl ⟨rfl, hbl⟩))
      go_ret
      exact ⟨rfl, hbl⟩
  · have d1 : (n : Int) > 100 := by omega
    clear hiI hOp
    go_enter Try.func4, Try.ntmps4
    go_wp2_with (first | (go_at_call 9; refine (HLV.out _ hbI).mono ?_; rintro e wl ⟨rfl, hbl⟩))
    go_ret
    exact ⟨rfl, hbl⟩
end Go.Proofs.Ytpkfmccnjandoaa
