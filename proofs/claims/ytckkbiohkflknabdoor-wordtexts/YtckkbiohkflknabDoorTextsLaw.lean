/- The walk of WordTexts: for every word and every text: each word's digits, and any text as a word, are as the page says. -/
import Derived.Test.YtckkbiohkflknabDoorTabs5
import Derived.Test.YtckkbiohkflknabDoorRefNum
namespace Go.Proofs.YtckkbiohkflknabDoor
open Go.RowKit
set_option maxHeartbeats 1000000

theorem wordTexts_walk (a0 : Int) (a1 : ByteArray) (w : World) (w0 : (Lit.int .u32 a0).wf = true) (w1 : a1.size ≤ maxLen) (ht : Laid5 w) :
    Calls Tryd.prog 3 #[.int .u32 a0, .string a1] w fun e w' => e = .returned (.bool true) ∧ Below w.heap.size w w' := by
  have b0 := bounds_u32 w0
  unfold maxLen at w1
  clear w0
  by_cases hbig : 4096 < a1.size
  · have hb2 : (4096 : Int) < (a1.size : Int) := by omega
    go_enter Tryd.func3, Tryd.ntmps3
    go_wp2_with (go_at_call 6; refine (live_any _ ht.1).mono ?_; rintro e w1 ⟨rfl, hb⟩)
    go_ret
    exact ⟨rfl, hb⟩
  have hb2 : (a1.size : Int) ≤ 4096 := by omega
  by_cases hv : ∃ v : Int, -2147483648 ≤ v ∧ v ≤ 2147483647 ∧ Lib.itoa v = a1.data.toList
  case' pos => obtain ⟨v, v0, v1, hv⟩ := hv
  case' pos => have C1 : Hid (∀ w, Laid5 w → Calls Tryd.prog 7 #[.string a1] w fun e w' => e = .returned (.tuple #[.int .u32 (v % 4294967296), .bool true]) ∧ Below w.heap.size w w') := hidden fun w hw => number_yes a1 (by omega) v v0 v1 hv w hw
  case' pos => have C2 : Hid (∀ w, Calls Tryd.prog 8 #[.string a1] w fun e w' => e = .returned (.tuple #[.int .u32 (v % 4294967296), .bool true]) ∧ Below w.heap.size w w') := hidden fun w => numR_yes a1 w (by omega) v v0 v1 hv
  case' neg => have C1 : Hid (∀ w, Laid5 w → Calls Tryd.prog 7 #[.string a1] w fun e w' => e = .returned (.tuple #[.int .u32 0, .bool false]) ∧ Below w.heap.size w w') := hidden fun w hw => number_no a1 (by omega) (fun v v0 v1 h => hv ⟨v, v0, v1, h⟩) w hw
  case' neg => have C2 : Hid (∀ w, Calls Tryd.prog 8 #[.string a1] w fun e w' => e = .returned (.tuple #[.int .u32 0, .bool false]) ∧ Below w.heap.size w w') := hidden fun w => numR_no a1 w (by omega) (fun v v0 v1 h => hv ⟨v, v0, v1, h⟩)
  all_goals
    clear hv
    go_enter Tryd.func3, Tryd.ntmps3
    go_wp2_with fail
    refine (C1.out _ ht).mono ?_
    rintro e w1 ⟨rfl, hb1⟩
    have ht1 := ht.below hb1 (Nat.le_refl _)
    go_wp2_with fail
    refine (C2.out _).mono ?_
    rintro e w2 ⟨rfl, hb2⟩
    have ht2 := ht1.below hb2 (Nat.le_refl _)
    go_wp2_with fail
    refine (dec_any _ _ ht2.1).mono ?_
    rintro e w3 ⟨rfl, hb3⟩
    have ht3 := ht2.below hb3 (Nat.le_refl _)
    go_wp2_with fail
    refine (decR_any _ _ b0.1 b0.2).mono ?_
    rintro e w4 ⟨rfl, hb4⟩
    have ht4 := ht3.below hb4 (Nat.le_refl _)
    go_wp2_with (go_at_call 6; refine (live_any _ ht4.1).mono ?_; rintro e w5 ⟨rfl, hb5⟩)
    go_ret
    have s1 := hb1.size
    have s2 := hb2.size
    have s3 := hb3.size
    have s4 := hb4.size
    exact ⟨rfl, (((hb1.trans (hb2.mono s1)).trans (hb3.mono (by omega))).trans (hb4.mono (by omega))).trans (hb5.mono (by omega))⟩
end Go.Proofs.YtckkbiohkflknabDoor
