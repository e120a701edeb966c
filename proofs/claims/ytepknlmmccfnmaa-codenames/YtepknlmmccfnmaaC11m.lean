/- The walk of CodeNames: each instruction's name leads back to its number. -/
import Derived.Test.YtepknlmmccfnmaaC11l
import Derived.Test.YtepknlmmccfnmaaC11e
namespace Go.Proofs.Ytepknlmmccfnmaa
open Go.RowKit
set_option maxHeartbeats 1000000
set_option maxRecDepth 100000
set_option linter.unusedVariables false

theorem hlive {w : World} (w1 : World) (hb : Below w.heap.size w w1) : Calls Try.prog 6 #[] w1 fun e w' => e = .returned (.bool true) ∧ Below w.heap.size w w' := (live_any w1).mono (fun e w' hh => ⟨hh.1, hb.trans (hh.2.mono hb.size)⟩)
theorem codeNames_walk (op : Int) (w : World) (hop : (Lit.int .u32 op).wf = true) :
    Calls Try.prog 4 #[.int .u32 op] w fun e w' => e = .returned (.bool true) ∧ Below w.heap.size w w' := by
  have HLV : Hid (∀ w1, Below w.heap.size w w1 → _) := fun w1 hb => hlive (w := w) w1 hb
  have HS : Hid (∀ w1, Below w.heap.size w w1 → Calls Try.prog 7 #[.int .u32 op] w1 fun e w' => e = .returned (.tuple #[strV (rwV (opR op)).2.2, .bool (opR op).isSome]) ∧ Below w.heap.size w w') := fun w1 hb => (ksig_any op w1).mono (fun e w' hh => ⟨hh.1, hb.trans (hh.2.mono hb.size)⟩)
  have HN : Hid (∀ w1, Below w.heap.size w w1 → Calls Try.prog 11 #[.int .u32 op] w1 fun e w' => e = .returned (strV (rwV (opR op)).2.1) ∧ Below w.heap.size w w') := fun w1 hb => (kname_any op w1).mono (fun e w' hh => ⟨hh.1, hb.trans (hh.2.mono hb.size)⟩)
  have HO : Hid (∀ nm w1, Below w.heap.size w w1 → Calls Try.prog 9 #[strV nm] w1 fun e w' => e = .returned (.tuple #[.int .u32 (rwV (nmR nm)).1, .bool (nmR nm).isSome]) ∧ Below w.heap.size w w') := fun nm w1 hb => (kop_any nm w1).mono (fun e w' hh => ⟨hh.1, hb.trans (hh.2.mono hb.size)⟩)
  have hb0 := Below.refl w.heap.size w
  clear hop
  cases hr : opR op with
  | none =>
    rw [hr] at HS HN
    have HO1 := hidden (HO.out [])
    have e0 : rwV none = r0 := rfl
    rw [e0] at HS HN
    change Hid (∀ w1, Below w.heap.size w w1 → Calls Try.prog 7 #[.int .u32 op] w1 fun e w' => e = .returned (.tuple #[strV [], .bool false]) ∧ Below w.heap.size w w') at HS
    change Hid (∀ w1, Below w.heap.size w w1 → Calls Try.prog 11 #[.int .u32 op] w1 fun e w' => e = .returned (strV []) ∧ Below w.heap.size w w') at HN
    generalize (rwV (nmR [])).1 = X at *
    generalize (nmR []).isSome = Y at *
    clear HO e0 hr
    go_enter Try.func4, Try.ntmps4
    go_wp2_with (first | (go_at_call 7; refine (HS.out _ hb0).mono ?_; rintro e w1 ⟨rfl, hb1⟩) | (go_at_call 11; refine (HN.out _ hb1).mono ?_; rintro e w2 ⟨rfl, hb2⟩) | (go_at_call 9; refine (HO1.out _ hb2).mono ?_; rintro e w3 ⟨rfl, hb3⟩) | (go_at_call 6; refine (HLV.out _ hb3).mono ?_; rintro e wl ⟨rfl, hbl⟩))
    go_ret
    exact ⟨rfl, hbl⟩
  | some r =>
    obtain ⟨hm, he⟩ := opR_mem hr
    obtain ⟨h1, h2, h3, h4, h5, h6⟩ := tab_row hm
    rw [hr] at HS HN
    change Hid (∀ w1, Below w.heap.size w w1 → Calls Try.prog 7 #[.int .u32 op] w1 fun e w' => e = .returned (.tuple #[strV r.2.2, .bool true]) ∧ Below w.heap.size w w') at HS
    change Hid (∀ w1, Below w.heap.size w w1 → Calls Try.prog 11 #[.int .u32 op] w1 fun e w' => e = .returned (strV r.2.1) ∧ Below w.heap.size w w') at HN
    have HO1 := hidden (HO.out r.2.1)
    rw [h2] at HO1
    change Hid (∀ w1, Below w.heap.size w w1 → Calls Try.prog 9 #[strV r.2.1] w1 fun e w' => e = .returned (.tuple #[.int .u32 r.1, .bool true]) ∧ Below w.heap.size w w') at HO1
    rw [he] at HO1
    have q1 : (r.2.1 == []) = false := by simpa using h4
    have HL6 : Hid (∀ i, i < r.2.2.length → ((r.2.2.getD i 0).toNat : Int) = 76 ∨ ((r.2.2.getD i 0).toNat : Int) = 83) := fun i hi => by
      have hm2 : r.2.2.getD i 0 ∈ r.2.2 := by rw [List.getD_eq_getElem?_getD, List.getElem?_eq_getElem hi]; exact List.getElem_mem _
      rcases h6 _ hm2 with e | e
      · rw [e]; exact .inl rfl
      · rw [e]; exact .inr rfl
    clear HO hr hm he h1 h2 h3 h4 h6
    generalize r.2.1 = NM at *
    generalize r.2.2 = LT at *
    go_enter Try.func4, Try.ntmps4
    go_wp2_with (first | (go_at_call 7; refine (HS.out _ hb0).mono ?_; rintro e w1 ⟨rfl, hb1⟩) | (go_at_call 11; refine (HN.out _ hb1).mono ?_; rintro e w2 ⟨rfl, hb2⟩) | (go_at_call 9; refine (HO1.out _ hb2).mono ?_; rintro e w3 ⟨rfl, hb3⟩))
    have HB3 := hidden hb3
    clear hb3 hb2 hb1
    go_loopw [8] (fun i wr => ∃ k : Nat, k ≤ LT.length ∧ i = .int .i64 k ∧ wr = w3) (fun i _ => LT.length - (intOf i).toNat)
    case atStart => exact ⟨0, by omega, rfl, rfl⟩
    case round =>
      obtain ⟨k, hk, rfl, rfl⟩ := hrel
      by_cases hlt : k < LT.length
      · have hix := idx_str LT k hlt
        have d1 : (k : Int) < (LT.length : Int) := by omega
        have hw : IntKind.i64.wrap ((k : Int) + 1) = (k : Int) + 1 := by rw [IntKind.wrap_i64]; omega
        rcases HL6.out k hlt with e | e
        all_goals (
          rw [e] at hix
          go_wp2
          go_roundw
          case rel => exact ⟨k + 1, by omega, int_eq (by omega), trivial⟩
          case measure => simp [intOf]; omega)
      · obtain rfl : k = LT.length := by omega
        have d1 : ¬ (LT.length : Int) < (LT.length : Int) := by omega
        have d2 : (LT.length : Int) ≤ 8 := by omega
        have q2 : (NM != []) = true := by simpa using q1
        go_wp2_with (first | (go_at_call 6; refine (HLV.out _ HB3.out).mono ?_; rintro e wl ⟨rfl, hbl⟩))
        go_ret
        exact ⟨rfl, hbl⟩
end Go.Proofs.Ytepknlmmccfnmaa
