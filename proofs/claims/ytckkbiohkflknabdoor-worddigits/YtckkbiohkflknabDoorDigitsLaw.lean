/- The walk of WordDigits: for every word and every text: a word's digits are read as the word; a text that is read is the digits of what was read. -/
import Derived.Test.YtckkbiohkflknabDoorTabs5
namespace Go.Proofs.YtckkbiohkflknabDoor
open Go.RowKit
set_option maxHeartbeats 1000000

theorem wordDigits_walk (a0 : Int) (a1 : ByteArray) (w : World) (w0 : (Lit.int .u32 a0).wf = true) (w1 : a1.size ≤ maxLen) (ht : Laid5 w) :
    Calls Tryd.prog 4 #[.int .u32 a0, .string a1] w fun e w' => e = .returned (.bool true) ∧ Below w.heap.size w w' := by
  have b0 := bounds_u32 w0
  unfold maxLen at w1
  have hr := wrap32_range a0
  clear w0
  by_cases hbig : 4096 < a1.size
  · have hb2 : (4096 : Int) < (a1.size : Int) := by omega
    go_enter Tryd.func4, Tryd.ntmps4
    go_wp2_with (go_at_call 6; refine (live_any _ ht.1).mono ?_; rintro e w1 ⟨rfl, hb⟩)
    go_ret
    exact ⟨rfl, hb⟩
  have hb2 : (a1.size : Int) ≤ 4096 := by omega
  have hlen : ∀ s : ByteArray, s = ⟨(Lib.itoa (wrap32 a0)).toArray⟩ → s.size ≤ 281474976710656 := by
    intro s hs
    subst hs
    have := Lib.itoa_length_le (wrap32 a0) (by omega) (by omega)
    show (Lib.itoa (wrap32 a0)).toArray.size ≤ _
    simp; omega
  have hlen2 := hidden (hlen _ rfl)
  have hmod : wrap32 a0 % 4294967296 = a0 := by rw [wrap32_mod]; omega
  have Hc1 : Hid (∀ w, Laid5 w → Calls Tryd.prog 7 #[.string ⟨(Lib.itoa (wrap32 a0)).toArray⟩] w fun e w' => e = .returned (.tuple #[.int .u32 a0, .bool true]) ∧ Below w.heap.size w w') := by
    intro w hw
    have := number_yes ⟨(Lib.itoa (wrap32 a0)).toArray⟩ hlen2.out (wrap32 a0) hr.1 hr.2 rfl w hw
    rw [hmod] at this
    exact this
  clear hlen hlen2 hmod
  by_cases hv : ∃ v : Int, -2147483648 ≤ v ∧ v ≤ 2147483647 ∧ Lib.itoa v = a1.data.toList
  · obtain ⟨v, v0, v1, hv⟩ := hv
    have HV := hidden hv
    have hs2 : (⟨(Lib.itoa (wrap32 (v % 4294967296))).toArray⟩ : ByteArray) = a1 := by rw [mod_back v v0 v1, hv]
    clear hv
    go_enter Tryd.func4, Tryd.ntmps4
    go_wp2_with fail
    refine (dec_any _ _ ht.1).mono ?_
    rintro e w1 ⟨rfl, hb1⟩
    have ht1 := ht.below hb1 (Nat.le_refl _)
    go_wp2_with fail
    refine (Hc1.out _ ht1).mono ?_
    rintro e w2 ⟨rfl, hb2⟩
    have ht2 := ht1.below hb2 (Nat.le_refl _)
    go_wp2_with fail
    refine (number_yes a1 (by omega) v v0 v1 HV.out _ ht2).mono ?_
    rintro e w3 ⟨rfl, hb3⟩
    have ht3 := ht2.below hb3 (Nat.le_refl _)
    go_wp2_with fail
    refine (dec_any _ _ ht3.1).mono ?_
    rintro e w4 ⟨rfl, hb4⟩
    have ht4 := ht3.below hb4 (Nat.le_refl _)
    go_wp2_with (go_at_call 6; refine (live_any _ ht4.1).mono ?_; rintro e w5 ⟨rfl, hb5⟩)
    go_ret
    have s1 := hb1.size
    have s2 := hb2.size
    have s3 := hb3.size
    have s4 := hb4.size
    exact ⟨rfl, (((hb1.trans (hb2.mono s1)).trans (hb3.mono (by omega))).trans (hb4.mono (by omega))).trans (hb5.mono (by omega))⟩
  · have HV : Hid (∀ v : Int, -2147483648 ≤ v → v ≤ 2147483647 → Lib.itoa v ≠ a1.data.toList) := fun v v0 v1 h => hv ⟨v, v0, v1, h⟩
    clear hv
    go_enter Tryd.func4, Tryd.ntmps4
    go_wp2_with fail
    refine (dec_any _ _ ht.1).mono ?_
    rintro e w1 ⟨rfl, hb1⟩
    have ht1 := ht.below hb1 (Nat.le_refl _)
    go_wp2_with fail
    refine (Hc1.out _ ht1).mono ?_
    rintro e w2 ⟨rfl, hb2⟩
    have ht2 := ht1.below hb2 (Nat.le_refl _)
    go_wp2_with fail
    refine (number_no a1 (by omega) HV.out _ ht2).mono ?_
    rintro e w3 ⟨rfl, hb3⟩
    have ht3 := ht2.below hb3 (Nat.le_refl _)
    go_wp2_with (go_at_call 6; refine (live_any _ ht3.1).mono ?_; rintro e w5 ⟨rfl, hb5⟩)
    go_ret
    have s1 := hb1.size
    have s2 := hb2.size
    have s3 := hb3.size
    exact ⟨rfl, ((hb1.trans (hb2.mono s1)).trans (hb3.mono (by omega))).trans (hb5.mono (by omega))⟩
end Go.Proofs.YtckkbiohkflknabDoor
