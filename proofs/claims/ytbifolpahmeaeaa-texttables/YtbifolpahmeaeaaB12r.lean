/- live of the statements of layer 12. -/
import Derived.Test.YtbifolpahmeaeaaB12q
namespace Go.Proofs.Ytbifolpahmeaeaa
open Go.RowKit Go.Maps
set_option maxHeartbeats 1000000
set_option maxRecDepth 100000
set_option linter.unusedVariables false

def LvB (w : World) : World := w.alloc (.cells #[.int .u8 224, .int .u8 97, .int .u8 98, .int .u8 0] 5)
theorem live_plain (w : World) : Calls Try.prog 15 #[.slice (some ⟨w.heap.size, 0, none⟩) 4 4, .int .u32 0, .int .u32 0, .int .i64 9] (w.alloc (.cells #[.int .u8 224, .int .u8 97, .int .u8 98, .int .u8 0] 5)) fun r w' => ∃ a c, r = .returned (.tuple #[.slice a 2 c, .bool true, .int .i64 0]) ∧ Hid (VRow w' a 2 [97, 98]) ∧ Hid (Below w.heap.size w w') := by
  have hm : Mem (w.alloc (.cells #[.int .u8 224, .int .u8 97, .int .u8 98, .int .u8 0] 5)) (some ⟨w.heap.size, 0, none⟩) 4 4 liveB := ⟨own_reads (owns_new w w.heap.size liveB (Nat.le_refl _) (by decide)), (by intro c hc; simp [liveB] at hc; omega), by omega⟩
  have hb0 : Below w.heap.size w (w.alloc (.cells #[.int .u8 224, .int .u8 97, .int .u8 98, .int .u8 0] 5)) := (Below.refl _ _).alloc (Nat.le_refl _) _
  generalize w.alloc (.cells #[.int .u8 224, .int .u8 97, .int .u8 98, .int .u8 0] 5) = w1 at *
  have h := tplainT_any 9 0 0 (some ⟨w.heap.size, 0, none⟩) 4 4 liveB w1 hm (by omega) (by omega) (by omega) (by omega)
  have e0 : ((0 : Nat) : Int) = 0 := rfl
  have e9 : (9 : Int).toNat = 9 := rfl
  rw [e0, e9] at h
  refine h.mono ?_
  clear h
  intro x w' hh
  obtain ⟨r, wh, e, a', c', hx1, hr, ho, hb, hx⟩ := hh
  obtain ⟨h1, h2, h3⟩ := plr_det hr live_run
  subst h1 h2 h3
  exact ⟨a', c', hx1, own32_v ho hx, hb0.trans (hb.mono hb0.size)⟩
theorem live_next (w3 : World) : Calls Try.prog 16 #[.slice none 0 0, .int .u32 0, .agg #[.int .i64 225, .int .u32 0, .int .u32 0]] w3 fun r w' => ∃ k1 ca cn cc ad ra rn rc k' ad' bit', r = .returned (.tuple #[.agg #[.int .i64 k1, .slice ca cn cc, .int .u32 ad, .slice ra rn rc], .agg #[.int .i64 k', .int .u32 ad', .int .u32 bit'], .int .i64 120]) ∧ Below w3.heap.size w3 w' := by
  have hmn : Mem w3 none 0 0 [] := ⟨⟨rfl, Nat.le_refl _, .inl ⟨rfl, rfl, rfl⟩⟩, (fun c hc => by simp at hc), by omega⟩
  have h := tnext_any ⟨225, 0, 0⟩ 0 none 0 0 [] w3 hmn ⟨by decide, by decide, by decide⟩ (by omega)
  have hn : nxN [] 0 ⟨225, 0, 0⟩ = ⟨120, 0, [], ta0⟩ := by rfl
  have e0 : ((0 : Nat) : Int) = 0 := rfl
  rw [hn] at h
  simp only [e0] at h
  refine h.mono (fun r w' hh => ?_)
  exact prt_err hh
theorem live_any (w : World) : Calls Try.prog 6 #[] w fun e w' => e = .returned (.bool true) ∧ Below w.heap.size w w' := by
  have HPL := hidden (live_plain w)
  have HV1 : Hid (∀ w1 : World, VRow (w1.alloc (.cells #[.int .u32 97] 22)) (some ⟨w1.heap.size, 0, none⟩) 1 [97]) := fun w1 => vrow_new w1 97 (by omega)
  have HV2 : Hid (∀ (w1 : World) (x y : Nat), x < 4294967296 → y < 4294967296 → VRow (w1.alloc (.cells #[.int .u32 (x : Int), .int .u32 (y : Int)] 22)) (some ⟨w1.heap.size, 0, none⟩) 2 [x, y]) := fun w1 x y hx hy => by
    refine ⟨rfl, fun z hz => by simp at hz; omega, fun i hi => ⟨w1.heap.size, 0, rfl, ?_⟩⟩
    have hh := heap_alloc_new w1 (.cells #[.int .u32 (x : Int), .int .u32 (y : Int)] 22)
    rcases (show i = 0 ∨ i = 1 by omega) with rfl | rfl
    · simp only [World.cell?]; rw [hh]; simp
    · simp only [World.cell?]; rw [hh]; simp
  have HTB : Hid (∀ w1, Below w.heap.size w w1 → Calls Try.prog 7 #[.int .u32 0, .slice (some ⟨w1.heap.size, 0, none⟩) 1 1] (w1.alloc (.cells #[.int .u32 97] 22)) fun r w' => ∃ a' c', r = .returned (.tuple #[.slice a' 24 c', .int .i64 0]) ∧ Hid (Reads w' a' 24 c' tabB) ∧ Hid (Below w1.heap.size w1 w') ∧ Hid (Below w.heap.size w w')) := fun w1 hb => (ttable_live _ 1 _ (HV1.out w1)).mono (fun r w' hh => by
    obtain ⟨a', c', h1, h2, h3⟩ := hh
    have hq := (al_below w1 (.cells #[.int .u32 97] 22)).trans (h3.out.mono (al_below w1 _).size)
    exact ⟨a', c', h1, h2, hq, hb.trans (hq.mono hb.size)⟩)
  have HPK : Hid (∀ w2, Below w.heap.size w w2 → Calls Try.prog 9 #[.slice (some ⟨w2.heap.size, 0, none⟩) 1 1, .slice (some ⟨w2.heap.size + 1, 0, none⟩) 2 2] ((w2.alloc (.cells #[.int .u32 97] 22)).alloc (.cells #[.int .u32 97, .int .u32 97] 22)) fun r w' => ∃ a' c', r = .returned (.tuple #[.slice a' 2 c', .int .i64 0]) ∧ Hid (Reads w' a' 2 c' [225, 3]) ∧ Hid (Below w2.heap.size w2 w') ∧ Hid (Below w.heap.size w w')) := fun w2 hb => by
    have v2 := HV2.out (w2.alloc (.cells #[.int .u32 97] 22)) 97 97 (by omega) (by omega)
    have e97 : ((97 : Nat) : Int) = 97 := rfl
    rw [World.size_alloc, e97] at v2
    have v1 := (HV1.out w2).later (al_below (w2.alloc (.cells #[.int .u32 97] 22)) (.cells #[.int .u32 97, .int .u32 97] 22))
    have h := tpack_live _ _ 1 2 _ v1 v2
    refine h.mono ?_
    rintro r w' ⟨a', c', h1, h2, h3⟩
    have hq0 : Below w2.heap.size w2 ((w2.alloc (.cells #[.int .u32 97] 22)).alloc (.cells #[.int .u32 97, .int .u32 97] 22)) := (al_below _ _).alloc (by simp) _
    have hq := hq0.trans (h3.out.mono hq0.size)
    exact ⟨a', c', h1, h2, hq, hb.trans (hq.mono hb.size)⟩
  have HNX : Hid (∀ w3, Below w.heap.size w w3 → Calls Try.prog 16 #[.slice none 0 0, .int .u32 0, .agg #[.int .i64 225, .int .u32 0, .int .u32 0]] w3 fun r w' => ∃ k1 ca cn cc ad ra rn rc k' ad' bit', r = .returned (.tuple #[.agg #[.int .i64 k1, .slice ca cn cc, .int .u32 ad, .slice ra rn rc], .agg #[.int .i64 k', .int .u32 ad', .int .u32 bit'], .int .i64 120]) ∧ Hid (Below w3.heap.size w3 w') ∧ Hid (Below w.heap.size w w')) := fun w3 hb => by
    refine (live_next w3).mono (fun r w' hh => ?_)
    obtain ⟨k1, ca, cn, cc, ad, ra, rn, rc, k', ad', bit', h1, h2⟩ := hh
    exact ⟨k1, ca, cn, cc, ad, ra, rn, rc, k', ad', bit', h1, h2, hb.trans (h2.mono hb.size)⟩
  have HW2 : Hid (∀ (w5 : World) (a : Option Addr) (c : Nat), VRow w5 a 2 [97, 98] → Below w.heap.size w w5 → Calls Try.prog 13 #[.slice a 2 c, .slice (some ⟨w5.heap.size, 0, none⟩) 2 2] (w5.alloc (.cells #[.int .u32 97, .int .u32 98] 22)) fun e w' => e = .returned (.bool true) ∧ Hid (Below w5.heap.size w5 w') ∧ Hid (Below w.heap.size w w')) := fun w5 a c hv hb => by
    have hba := al_below w5 (.cells #[.int .u32 97, .int .u32 98] 22)
    have h := words_any a _ 2 2 c 2 [97, 98] [97, 98] _ (hv.later hba) (HV2.out w5 97 98 (by omega) (by omega)) (by omega)
    refine h.mono ?_
    rintro e w' ⟨rfl, hd⟩
    have hq := hba.trans (hd.below.mono hba.size)
    exact ⟨by simp, hq, hb.trans (hq.mono hb.size)⟩
  have HS1 : Hid (∀ w5 a c, Reads w5 a 24 c tabB → (convert 25 9 (.slice a 24 c)).run Try.prog w5 = .ok (.string ⟨#[0, 0, 0, 24, 0, 0, 0, 3, 0, 0, 0, 12, 0, 0, 0, 0, 21, 0, 0, 0, 22, 1, 2, 97]⟩) w5) := fun w5 a c hr => by
    have h := conv_reads w5 a 24 c tabB (by intro c hc; simp [tabB] at hc; omega) hr
    rw [h]
    rfl
  have HS2 : Hid (∀ w5 a c, Reads w5 a 2 c [225, 3] → (convert 25 9 (.slice a 2 c)).run Try.prog w5 = .ok (.string ⟨#[225, 3]⟩) w5) := fun w5 a c hr => by
    have h := conv_reads w5 a 2 c [225, 3] (by intro c hc; simp at hc; omega) hr
    rw [h]
    rfl
  go_enter Try.func6, Try.ntmps6
  go_upto_region 5 with (first | (go_at_call 15; refine HPL.out.mono ?_; rintro r w1 ⟨a1, c1, rfl, HR1, HB1⟩) | (go_at_call 7; refine (HTB.out _ HB1.out).mono ?_; rintro r w2 ⟨a2, c2, rfl, HR2, HQ2, HB2⟩) | (go_at_call 9; refine (HPK.out _ HB2.out).mono ?_; rintro r w3 ⟨a3, c3, rfl, HR3, HQ3, HB3⟩) | (go_at_call 16; refine (HNX.out _ HB3.out).mono ?_; rintro r w4 ⟨k1, ca, cn, cc, ad, ra, rn, rc, k', ad', bit', rfl, HQ4, HB4⟩))
  have hba : Below w4.heap.size w4 ((w4.alloc (.cells #[.int .i64 k1, .slice ca cn cc, .int .u32 ad, .slice ra rn rc] 44)).alloc (.cells #[.int .i64 k', .int .u32 ad', .int .u32 bit'] 46)) := (al_below _ _).alloc (by simp) _
  have HV5 := hidden ((((HR1.out.later HQ2.out).later HQ3.out).later HQ4.out).later hba)
  have HT5 := hidden (((HR2.out.later HQ3.out).later HQ4.out).later hba)
  have HP5 := hidden ((HR3.out.later HQ4.out).later hba)
  have HB5 := hidden (HB4.out.trans (hba.mono HB4.out.size))
  generalize (w4.alloc (.cells #[.int .i64 k1, .slice ca cn cc, .int .u32 ad, .slice ra rn rc] 44)).alloc (.cells #[.int .i64 k', .int .u32 ad', .int .u32 bit'] 46) = w5 at *
  clear hba HR1 HR2 HR3 HQ2 HQ3 HQ4 HB1 HB2 HB3 HB4 HPL HTB HPK HNX HV1 HV2
  generalize w4.heap.size = q4 at *
  go_wp2_with (first | (go_at_call 12; refine (num12 _ _).mono ?_; rintro e w9 ⟨rfl, e9⟩; rw [e9]; clear e9) | (go_at_call 13; refine (HW2.out _ _ _ HV5.out HB5.out).mono ?_; rintro e w6 ⟨rfl, HQ6, HB6⟩; have s1 := HS1.out _ _ _ (HT5.out.later HQ6.out); have s2 := HS2.out _ _ _ (HP5.out.later HQ6.out)))
  go_ret
  exact ⟨rfl, HB6.out⟩
end Go.Proofs.Ytbifolpahmeaeaa
