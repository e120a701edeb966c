/- The page's example (the law's live), and the walk of IffBack: what is built is read as it was. -/
import Derived.Test.YthmobhnkoinmcaaJ5j
namespace Go.Proofs.Ythmobhnkoinmcaa
open Go.RowKit
set_option maxHeartbeats 400000
set_option maxRecDepth 100000
set_option linter.unusedVariables false

abbrev UM : ByteArray := ⟨#[85, 77, 101, 109]⟩
abbrev IFZS : ByteArray := ⟨#[73, 70, 90, 83]⟩
def Z24 : List Int := [70, 79, 82, 77, 0, 0, 0, 16, 73, 70, 90, 83, 85, 77, 101, 109, 0, 0, 0, 3, 7, 8, 9, 0]
theorem id_ifzs : IsId IFZS := ⟨rfl, by decide⟩
theorem id_um : IsId UM := ⟨rfl, by decide⟩
theorem z24_ok : OkB Z24 := by unfold OkB Z24; decide
theorem z24_len : Z24.length = 24 := rfl
theorem z24_str : (strB (seg Z24 0 24)).toArray = #[70, 79, 82, 77, 0, 0, 0, 16, 73, 70, 90, 83, 85, 77, 101, 109, 0, 0, 0, 3, 7, 8, 9, 0] := by kernel_rfl
theorem z23_form : strB (seg (Z24.take 23) 0 4) = FORM.data.toList := by kernel_rfl
theorem z23_size : beV (Z24.take 23) 4 4 ≠ ((23 : Nat) : Int) - 8 := by
  rw [show beV (Z24.take 23) 4 4 = 16 by kernel_rfl]; decide
theorem bs_take {w : World} {g o L : Nat} {zs : List Int} (h : Bs w g o L zs) (n : Nat) (hn : n ≤ L) : Bs w g o n (zs.take n) := by
  refine ⟨by rw [List.length_take, h.1]; omega, fun i hi => ?_⟩
  rw [h.2 i (by omega)]
  simp [List.getD_eq_getElem?_getD, hi]
theorem one_of {ks : List Ck} {x : ByteArray} (h : ks.map (·.id) = [x]) : ∃ k0, ks = [k0] := by
  cases ks with
  | nil => simp at h
  | cons k t =>
    cases t with
    | nil => exact ⟨k, rfl⟩
    | cons => simp at h
abbrev lv (g : Nat) : Ck := ⟨UM, some ⟨g, 0, none⟩, 3, 3, [7, 8, 9]⟩
theorem lv_sizes (g : Nat) : sizes [lv g] = 12 := by kernel_rfl
theorem lv_form (g : Nat) : formL IFZS [lv g] = Z24 := by kernel_rfl
theorem s789 : (strB [7, 8, 9]).toArray = #[7, 8, 9] := by kernel_rfl
theorem lv_ok : OkB [7, 8, 9] := by unfold OkB; decide
theorem lv_cks (w : World) : Cks ((w.alloc (.cells #[.int .u8 7, .int .u8 8, .int .u8 9] 5)).alloc (.cells #[.string UM, .slice (some ⟨w.heap.size, 0, none⟩) 3 3] 59)) (some ⟨w.heap.size + 1, 0, none⟩) 1 1 [lv w.heap.size] := by
  refine ⟨rfl, Nat.le_refl _, .inr ⟨_, _, rfl, fun i hi => ?_⟩, fun k hk => ?_⟩
  · match i, hi with
    | 0, _ => exact ⟨by simp, by simp⟩
  · rw [List.mem_singleton.1 hk]
    refine ⟨⟨rfl, Nat.le_refl _, .inr ⟨_, rfl, fun i hi => ?_⟩⟩, lv_ok⟩
    match i, hi with
    | 0, _ => simp [Addr.add]
    | 1, _ => simp [Addr.add]
    | 2, _ => simp [Addr.add]
theorem num5 (n : Int) (w : World) : Calls Try.prog 10 #[.int .i64 n] w fun e w' => e = .returned (.int .i64 n) ∧ w' = w := by
  go_enter Try.func10, Try.ntmps10
  go_wp2
  go_ret
  exact ⟨rfl, rfl⟩
theorem live_any (w : World) : Calls Try.prog 8 #[] w fun e w' => e = .returned (.bool true) ∧ Below w.heap.size w w' := by
  have HC := hidden (lv_cks w)
  have hW : Below w.heap.size w ((w.alloc (.cells #[.int .u8 7, .int .u8 8, .int .u8 9] 5)).alloc (.cells #[.string UM, .slice (some ⟨w.heap.size, 0, none⟩) 3 3] 59)) := ((Below.refl _ _).alloc (Nat.le_refl _) _).alloc (by simp) _
  have HB := hidden hW
  have hall : AllId [lv w.heap.size] := fun k hk => by rw [List.mem_singleton.1 hk]; exact id_um
  have HBu : Hid (Calls Try.prog 9 #[.string IFZS, .slice (some ⟨w.heap.size + 1, 0, none⟩) 1 1] ((w.alloc (.cells #[.int .u8 7, .int .u8 8, .int .u8 9] 5)).alloc (.cells #[.string UM, .slice (some ⟨w.heap.size, 0, none⟩) 3 3] 59)) (BuildRet ((w.alloc (.cells #[.int .u8 7, .int .u8 8, .int .u8 9] 5)).alloc (.cells #[.string UM, .slice (some ⟨w.heap.size, 0, none⟩) 3 3] 59)) 24 Z24)) :=
    hidden (by
      have := build_good IFZS _ 1 1 [lv w.heap.size] _ id_ifzs HC.out hall (by decide) (by rw [lv_sizes]; decide)
      rw [lv_sizes, lv_form] at this
      exact this)
  have HAll := hidden hall
  clear hW hall HC
  have HT := idc_t id_ifzs
  have HF : IdC ⟨#[73, 70, 90]⟩ false := idc_f (fun h => by have := h.1; revert this; decide)
  go_enter Try.func8, Try.ntmps8
  go_wp2_with fail
  refine HBu.out.mono ?_
  rintro e w3 ⟨v, rfl, ho, hb3⟩
  obtain ⟨g, cap, rfl, hcap, hg⟩ := owned_shape ho (by decide)
  have hBs : Bs w3 g 0 24 Z24 := ⟨z24_len, fun i hi => owned_cells ho i hi⟩
  have hrd : Reads w3 (some ⟨g, 0, none⟩) 24 cap (seg Z24 0 24) := hBs.sub 0 24 cap (Nat.le_refl _) hcap
  have e1 := conv_reads w3 _ _ _ _ (seg_okb z24_ok 0 24) hrd
  rw [z24_str] at e1
  have HB3 := hidden (HB.out.trans (hb3.mono HB.out.size))
  have HP := hidden (parse_good g 0 24 cap Z24 IFZS [lv w.heap.size] w3 hBs z24_ok (lv_form _).symm id_ifzs HAll.out (show 1 ≤ 1024 by decide) (by rw [lv_sizes]; decide) (fun k hk => by rw [List.mem_singleton.1 hk]; rfl) hcap)
  have HBs := hidden hBs
  clear ho hb3 hBs hrd HB HBu
  have hcap3 : (24 : Int) ≤ (cap : Int) := by omega
  have hcap4 : (23 : Int) ≤ (cap : Int) := by omega
  go_wp2_with (go_at_call 10; refine (num5 _ _).mono ?_; rintro e w9 ⟨rfl, hw⟩; obtain rfl := hw.symm)
  refine HP.out.mono ?_
  rintro e w4 ⟨v4, ks, rfl, hG, hids, hds, hb4⟩
  obtain ⟨k0, rfl⟩ := one_of hids
  obtain ⟨ao, cv, rfl⟩ := own_slice hG.1
  have hid0 : k0.id = UM := by simpa using hids
  have hd0 : k0.d = [7, 8, 9] := by simpa using hds
  have hCk : Cks w4 ao 1 cv [k0] := got_cks hG rfl (fun k hk => by rw [List.mem_singleton.1 hk, hd0]; exact lv_ok)
  have HCk := hidden hCk
  have hm := hCk.2.2.2 k0 List.mem_cons_self
  obtain ⟨b, o, rfl, q⟩ := hCk.at (by decide)
  have q0 := (q 0 Nat.zero_lt_one).1
  have q1 := (q 0 Nat.zero_lt_one).2
  have HR0 := hidden hm
  have HB4 := hidden (HB3.out.trans (hb4.mono HB3.out.size))
  have HBs4 := hidden (HBs.out.later hb4)
  simp only [List.getElem_cons_zero, Nat.zero_mul, Nat.add_zero] at q0 q1
  have hcv : 1 ≤ cv := hCk.2.1
  have HP2 : Hid (Calls Try.prog 11 #[.slice (some ⟨g, 0, none⟩) 23 cap] w4 fun e w' => e = .returned (.tuple #[.string ⟨#[]⟩, .slice none 0 0, .int .i64 51, .int .i64 4]) ∧ w' = w4) := hidden (parse_size g 0 23 cap (Z24.take 23) w4 (bs_take HBs4.out 23 (by decide)) (fun c hc => z24_ok c (List.mem_of_mem_take hc)) (by decide) (by decide) (by omega) z23_form z23_size)
  have HFd : Hid (Calls Try.prog 29 #[.string UM, .slice (some ⟨b, o, none⟩) 1 cv] w4 fun e w' => e = .returned (.tuple #[.int .i64 0, .bool true]) ∧ Below w4.heap.size w4 w') := hidden (find_first UM _ 1 cv [k0] w4 HCk.out (by decide) (by decide) (fun _ => hid0))
  have HE3 : Hid (∀ w5, Below w4.heap.size w4 w5 → (convert 25 9 (.slice k0.a k0.l k0.c)).run Try.prog w5 = .ok (.string ⟨#[7, 8, 9]⟩) w5) := hidden fun w5 hb5 => by
    have e3 := conv_reads w5 _ _ _ _ HR0.out.2 (HR0.out.1.later hb5)
    rw [hd0, s789] at e3
    exact e3
  rw [hid0] at q0
  clear hG hids hds hb4 hCk hm q HB3 HBs hid0 hd0 HR0 HCk e1 HBs4 HAll HP
  generalize k0.a = ka at *
  generalize k0.l = kl at *
  generalize k0.c = kc at *
  go_wp2_with (first | (go_at_call 10; refine (num5 _ _).mono ?_; rintro e w9 ⟨rfl, hw⟩; obtain rfl := hw.symm) | (go_at_call 11; refine HP2.out.mono ?_; rintro e w9 ⟨rfl, hw⟩; obtain rfl := hw.symm) | (go_at_call 29; refine HFd.out.mono ?_; rintro e w5 ⟨rfl, hb5⟩; have r0 := cellLater hb5 q0; have r1 := cellLater hb5 q1; have e3 := HE3.out _ hb5) | (go_at_call_of 30 (Value.string ⟨#[73, 70, 90, 83]⟩); refine (HT.out _).mono ?_; rintro e w9 ⟨rfl, hw⟩; obtain rfl := hw.symm) | (go_at_call 30; refine (HF.out _).mono ?_; rintro e w9 ⟨rfl, hw⟩; obtain rfl := hw.symm))
  go_ret
  exact ⟨rfl, HB4.out.trans (hb5.mono HB4.out.size)⟩
end Go.Proofs.Ythmobhnkoinmcaa
