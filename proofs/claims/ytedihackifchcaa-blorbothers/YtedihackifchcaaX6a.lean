/- What any bytes say as a form (lists alone), and contracts of iff.checkHead and iff.checkChunk for any bytes. -/
import Derived.Test.YtedihackifchcaaJ5g
namespace Go.Proofs.Ytedihackifchcaa
open Go.RowKit
set_option maxHeartbeats 1000000
set_option maxRecDepth 100000
set_option linter.unusedVariables false

def preB (zs : List Int) : Bool := Lib.hasPrefix [70, 79, 82, 77] (strB (seg zs 0 (min zs.length 4)))
/-- the first fault ahead of a form's chunks, and its place -/
def headR (zs : List Int) : Int × Int :=
  letI := decId (strA (seg zs 8 4))
  if preB zs = false then (50, 0) else if zs.length < 12 then (2, zs.length) else if beV zs 4 4 ≠ (zs.length : Int) - 8 then (51, 4) else if ¬ IsId (strA (seg zs 8 4)) then (50, 8) else (0, 0)
/-- how long the data of the chunk at p are; or its first fault, and that one's place -/
def chunkR (zs : List Int) (p : Nat) : Int × Int × Int :=
  letI := decId (strA (seg zs p 4))
  if zs.length < p + 8 then (0, 2, zs.length) else if ¬ IsId (strA (seg zs p 4)) then (0, 50, p) else if (zs.length : Int) - (p + 8) < beV zs (p + 4) 4 then (0, 51, p + 4)
  else if beV zs (p + 4) 4 % 2 = 0 then (beV zs (p + 4) 4, 0, 0) else if (p : Int) + 8 + beV zs (p + 4) 4 = zs.length then (0, 2, zs.length)
  else if zs.getD (p + 8 + (beV zs (p + 4) 4).toNat) 0 ≠ 0 then (0, 52, p + 8 + beV zs (p + 4) 4) else (beV zs (p + 4) 4, 0, 0)
theorem okb_at {zs : List Int} (hb : OkB zs) (i : Nat) : 0 ≤ zs.getD i 0 ∧ zs.getD i 0 ≤ 255 := by
  rw [List.getD_eq_getElem?_getD]
  cases h : zs[i]? with
  | none => simp
  | some c => exact hb c (List.mem_of_getElem? h)
theorem beV_bd (zs : List Int) (p : Nat) (hb : OkB zs) : 0 ≤ beV zs p 4 ∧ beV zs p 4 ≤ 4294967295 := by
  have h0 := okb_at hb p
  have h1 := okb_at hb (p + 1)
  have h2 := okb_at hb (p + 2)
  have h3 := okb_at hb (p + 3)
  simp only [beV, if_neg (show ¬ (4 : Int) = 1 by decide), if_neg (show ¬ (4 : Int) = 2 by decide)]
  omega
theorem chunkR_ok (zs : List Int) (p : Nat) (hb : OkB zs) (h : (chunkR zs p).2.1 = 0) :
    ∃ n : Nat, chunkR zs p = ((n : Int), 0, 0) ∧ p + 8 + n + n % 2 ≤ zs.length ∧ beV zs (p + 4) 4 = n ∧ IsId (strA (seg zs p 4)) := by
  have hv := beV_bd zs (p + 4) hb
  obtain ⟨n, hn⟩ := Int.eq_ofNat_of_zero_le hv.1
  unfold chunkR at h ⊢
  rw [hn] at h ⊢
  by_cases c1 : zs.length < p + 8
  · rw [if_pos c1] at h; exact absurd h (by simp)
  rw [if_neg c1] at h ⊢
  by_cases c2n : ¬ IsId (strA (seg zs p 4))
  · rw [if_pos c2n] at h; exact absurd h (by simp)
  have c2 := Classical.not_not.1 c2n
  rw [if_neg (not_not_intro c2)] at h ⊢
  by_cases c3 : (zs.length : Int) - (p + 8) < (n : Int)
  · rw [if_pos c3] at h; exact absurd h (by simp)
  rw [if_neg c3] at h ⊢
  by_cases c4 : (n : Int) % 2 = 0
  · rw [if_pos c4] at h ⊢
    exact ⟨n, rfl, by omega, rfl, c2⟩
  rw [if_neg c4] at h ⊢
  by_cases c5 : (p : Int) + 8 + (n : Int) = zs.length
  · rw [if_pos c5] at h; exact absurd h (by simp)
  rw [if_neg c5] at h ⊢
  by_cases c6 : zs.getD (p + 8 + (n : Int).toNat) 0 ≠ 0
  · rw [if_pos c6] at h; exact absurd h (by simp)
  rw [if_neg c6]
  exact ⟨n, rfl, by omega, rfl, c2⟩
theorem checkHead_any (g o L cap : Nat) (zs : List Int) (w : World) (h : Bs w g o L zs) (hb : OkB zs) (hm : L ≤ 4194304) (hcap : L ≤ cap) :
    Calls Try.prog 61 #[.slice (some ⟨g, o, none⟩) L cap] w fun e w' => e = .returned (.tuple #[.int .i64 (headR zs).1, .int .i64 (headR zs).2]) ∧ w' = w := by
  have hlen := h.1
  have hr := h.sub 0 (min L 4) cap (by omega) (by omega)
  rw [Nat.add_zero] at hr
  have e1 := conv_reads w _ _ _ _ (seg_okb hb 0 (min L 4)) hr
  have g1 : (L : Int) ≤ 4194304 := by omega
  have g3 : min (L : Int) 4 = ((min L 4 : Nat) : Int) := by omega
  have g4 : ((min L 4 : Nat) : Int) ≤ (cap : Int) := by omega
  have g5 : (0 : Int) ≤ ((min L 4 : Nat) : Int) := by omega
  have HP : Hid (∀ w, Calls Try.prog 66 #[.string ⟨#[70, 79, 82, 77]⟩, .string ⟨(strB (seg zs 0 (min L 4))).toArray⟩] w fun e w' => e = .returned (.bool (preB zs)) ∧ w' = w) := hidden fun w => by
    have := Try.strings_HasPrefix ⟨#[70, 79, 82, 77]⟩ ⟨(strB (seg zs 0 (min L 4))).toArray⟩ w
    unfold preB
    rw [hlen]
    exact this
  obtain ⟨R, hHR⟩ : ∃ R, R = headR zs := ⟨_, rfl⟩
  rw [← hHR]
  have HB := hidden h
  unfold headR at hHR
  rw [hlen] at hHR
  have HR := hidden hHR
  clear hHR h hr
  generalize min L 4 = M at *
  generalize seg zs 0 M = S0 at *
  by_cases c1 : preB zs = false
  · have hR : R = (50, 0) := by rw [HR.out, if_pos c1]
    subst hR
    rw [c1] at HP
    clear HR HB
    go_enter Try.func61, Try.ntmps61
    go_wp2_with (first | (go_at_call 66; refine (HP.out _).mono ?_; rintro e w9 ⟨rfl, hw⟩; obtain rfl := hw.symm))
    go_ret2
    exact ⟨rfl, rfl⟩
  · have c1' : preB zs = true := by simpa using c1
    rw [c1'] at HP
    rw [if_neg c1] at HR
    by_cases c2 : L < 12
    · have hR : R = (2, (L : Int)) := by rw [HR.out, if_pos c2]
      subst hR
      have c2' : (L : Int) < 12 := by omega
      clear HR HB c1 c1'
      go_enter Try.func61, Try.ntmps61
      go_wp2_with (first | (go_at_call 66; refine (HP.out _).mono ?_; rintro e w9 ⟨rfl, hw⟩; obtain rfl := hw.symm))
      go_ret2
      exact ⟨rfl, rfl⟩
    · rw [if_neg c2] at HR
      have g2 : (12 : Int) ≤ (L : Int) := by omega
      have HM := hidden (numberAt_any g o L cap 4 zs w HB.out hb (by omega) hcap (by omega))
      by_cases c3 : beV zs 4 4 ≠ (L : Int) - 8
      · have hR : R = (51, 4) := by rw [HR.out, if_pos c3]
        subst hR
        have h5 : (beV zs 4 4 != (L : Int) - 8) = true := by simpa using c3
        clear HR HB c1 c1' c3
        generalize beV zs 4 4 = V at *
        go_enter Try.func61, Try.ntmps61
        go_wp2_with (first | (go_at_call 66; refine (HP.out _).mono ?_; rintro e w9 ⟨rfl, hw⟩; obtain rfl := hw.symm) | (go_at_call 67; refine HM.out.mono ?_; rintro e w9 ⟨rfl, hw⟩; obtain rfl := hw.symm))
        go_ret2
        exact ⟨rfl, rfl⟩
      · rw [if_neg c3] at HR
        have c3' : beV zs 4 4 = (L : Int) - 8 := by simpa using c3
        rw [c3'] at HM
        have HI := hidden (idAt_any g o L cap 8 zs w HB.out hb (by omega) hcap (by omega))
        clear c3 c3'
        by_cases c4 : IsId (strA (seg zs 8 4))
        · have hR : R = (0, 0) := by rw [HR.out, if_neg (not_not_intro c4)]
          subst hR
          have HT := idc_t c4
          clear HR HB c1 c1' c4
          generalize seg zs 8 4 = S8 at *
          go_enter Try.func61, Try.ntmps61
          go_wp2_with (first | (go_at_call 66; refine (HP.out _).mono ?_; rintro e w9 ⟨rfl, hw⟩; obtain rfl := hw.symm) | (go_at_call 63; refine HI.out.mono ?_; rintro e w9 ⟨rfl, hw⟩; obtain rfl := hw.symm) | (go_at_call 67; refine HM.out.mono ?_; rintro e w9 ⟨rfl, hw⟩; obtain rfl := hw.symm) | (go_at_call 51; refine (HT.out _).mono ?_; rintro e w9 ⟨rfl, hw⟩; obtain rfl := hw.symm))
          go_ret2
          exact ⟨rfl, rfl⟩
        · have hR : R = (50, 8) := by rw [HR.out, if_pos c4]
          subst hR
          have HT := idc_f c4
          clear HR HB c1 c1' c4
          generalize seg zs 8 4 = S8 at *
          go_enter Try.func61, Try.ntmps61
          go_wp2_with (first | (go_at_call 66; refine (HP.out _).mono ?_; rintro e w9 ⟨rfl, hw⟩; obtain rfl := hw.symm) | (go_at_call 63; refine HI.out.mono ?_; rintro e w9 ⟨rfl, hw⟩; obtain rfl := hw.symm) | (go_at_call 67; refine HM.out.mono ?_; rintro e w9 ⟨rfl, hw⟩; obtain rfl := hw.symm) | (go_at_call 51; refine (HT.out _).mono ?_; rintro e w9 ⟨rfl, hw⟩; obtain rfl := hw.symm))
          go_ret2
          exact ⟨rfl, rfl⟩
theorem checkChunk_any (g o L cap p : Nat) (zs : List Int) (w : World) (h : Bs w g o L zs) (hb : OkB zs) (hm : L ≤ 4194304) (hcap : L ≤ cap) (hp : p < L) :
    Calls Try.prog 62 #[.slice (some ⟨g, o, none⟩) L cap, .int .i64 (p : Int)] w fun e w' => e = .returned (.tuple #[.int .i64 (chunkR zs p).1, .int .i64 (chunkR zs p).2.1, .int .i64 (chunkR zs p).2.2]) ∧ w' = w := by
  have hlen := h.1
  have hv := beV_bd zs (p + 4) hb
  obtain ⟨n, hn⟩ := Int.eq_ofNat_of_zero_le hv.1
  obtain ⟨R, hHR⟩ : ∃ R, R = chunkR zs p := ⟨_, rfl⟩
  rw [← hHR]
  unfold chunkR at hHR
  rw [hlen, hn] at hHR
  have HR := hidden hHR
  have HB := hidden h
  have g3 : (L : Int) ≤ 4194304 := by omega
  have gp : (p : Int) < (L : Int) := by omega
  have gn : (n : Int) ≤ 4294967295 := by omega
  clear hHR h hv
  by_cases c1 : L < p + 8
  · have hR : R = (0, 2, (L : Int)) := by rw [HR.out, if_pos c1]
    subst hR
    have g1 : (L : Int) < (p : Int) + 8 := by omega
    clear HR HB
    go_enter Try.func62, Try.ntmps62
    go_wp2
    go_ret3
    exact ⟨rfl, rfl⟩
  rw [if_neg c1] at HR
  have g1 : (p : Int) + 8 ≤ (L : Int) := by omega
  have HI := hidden (idAt_any g o L cap p zs w HB.out hb (by omega) hcap (by omega))
  by_cases c2 : ¬ IsId (strA (seg zs p 4))
  · have hR : R = (0, 50, (p : Int)) := by rw [HR.out, if_pos c2]
    subst hR
    have HT := idc_f c2
    clear HR HB c2
    generalize seg zs p 4 = S0 at *
    go_enter Try.func62, Try.ntmps62
    go_wp2_with (first | (go_at_call 63; refine HI.out.mono ?_; rintro e w9 ⟨rfl, hw⟩; obtain rfl := hw.symm) | (go_at_call 51; refine (HT.out _).mono ?_; rintro e w9 ⟨rfl, hw⟩; obtain rfl := hw.symm))
    go_ret3
    exact ⟨rfl, rfl⟩
  rw [if_neg c2] at HR
  have HT := idc_t (Classical.not_not.1 c2)
  have HM := hidden (numberAt_any g o L cap (p + 4) zs w HB.out hb (by omega) hcap (by omega))
  rw [hn, show ((p + 4 : Nat) : Int) = (p : Int) + 4 by omega] at HM
  clear c2 hn
  generalize seg zs p 4 = S0 at *
  by_cases c3 : (L : Int) - (p + 8) < (n : Int)
  · have hR : R = (0, 51, (p : Int) + 4) := by rw [HR.out, if_pos c3]
    subst hR
    clear HR HB
    go_enter Try.func62, Try.ntmps62
    go_wp2_with (first | (go_at_call 63; refine HI.out.mono ?_; rintro e w9 ⟨rfl, hw⟩; obtain rfl := hw.symm) | (go_at_call 67; refine HM.out.mono ?_; rintro e w9 ⟨rfl, hw⟩; obtain rfl := hw.symm) | (go_at_call 51; refine (HT.out _).mono ?_; rintro e w9 ⟨rfl, hw⟩; obtain rfl := hw.symm))
    go_ret3
    exact ⟨rfl, rfl⟩
  rw [if_neg c3] at HR
  have g2 : (n : Int) ≤ (L : Int) - ((p : Int) + 8) := by omega
  by_cases c4 : (n : Int) % 2 = 0
  · have hR : R = ((n : Int), 0, 0) := by rw [HR.out, if_pos c4]
    subst hR
    have k1 : ((n : Int) % 2 == 0) = true := by simpa using c4
    clear HR HB c4 c3
    go_enter Try.func62, Try.ntmps62
    go_wp2_with (first | (go_at_call 63; refine HI.out.mono ?_; rintro e w9 ⟨rfl, hw⟩; obtain rfl := hw.symm) | (go_at_call 67; refine HM.out.mono ?_; rintro e w9 ⟨rfl, hw⟩; obtain rfl := hw.symm) | (go_at_call 51; refine (HT.out _).mono ?_; rintro e w9 ⟨rfl, hw⟩; obtain rfl := hw.symm))
    go_ret3
    exact ⟨rfl, rfl⟩
  rw [if_neg c4] at HR
  have k1 : ((n : Int) % 2 == 0) = false := by simpa using c4
  by_cases c5 : (p : Int) + 8 + (n : Int) = L
  · have hR : R = (0, 2, (L : Int)) := by rw [HR.out, if_pos c5]
    subst hR
    have k2 : ((p : Int) + 8 + (n : Int) == (L : Int)) = true := by simpa using c5
    clear HR HB c4 c3 c5
    go_enter Try.func62, Try.ntmps62
    go_wp2_with (first | (go_at_call 63; refine HI.out.mono ?_; rintro e w9 ⟨rfl, hw⟩; obtain rfl := hw.symm) | (go_at_call 67; refine HM.out.mono ?_; rintro e w9 ⟨rfl, hw⟩; obtain rfl := hw.symm) | (go_at_call 51; refine (HT.out _).mono ?_; rintro e w9 ⟨rfl, hw⟩; obtain rfl := hw.symm))
    go_ret3
    exact ⟨rfl, rfl⟩
  rw [if_neg c5] at HR
  have k2 : ((p : Int) + 8 + (n : Int) == (L : Int)) = false := by simpa using c5
  have k3 := HB.out.2 (p + 8 + n) (by omega)
  have k4 : ((p : Int) + 8 + (n : Int)).toNat = p + 8 + n := by omega
  have k5 : (p : Int) + 8 + (n : Int) < (L : Int) := by omega
  rw [Int.toNat_natCast] at HR
  by_cases c6 : zs.getD (p + 8 + n) 0 ≠ 0
  · have hR : R = (0, 52, (p : Int) + 8 + n) := by rw [HR.out, if_pos c6]
    subst hR
    have k6 : (zs.getD (p + 8 + n) 0 != 0) = true := by simpa using c6
    clear HR HB c4 c3 c5 c6
    generalize zs.getD (p + 8 + n) 0 = Z at *
    go_enter Try.func62, Try.ntmps62
    go_wp2_with (first | (go_at_call 63; refine HI.out.mono ?_; rintro e w9 ⟨rfl, hw⟩; obtain rfl := hw.symm) | (go_at_call 67; refine HM.out.mono ?_; rintro e w9 ⟨rfl, hw⟩; obtain rfl := hw.symm) | (go_at_call 51; refine (HT.out _).mono ?_; rintro e w9 ⟨rfl, hw⟩; obtain rfl := hw.symm))
    go_ret3
    exact ⟨rfl, rfl⟩
  · have hR : R = ((n : Int), 0, 0) := by rw [HR.out, if_neg c6]
    subst hR
    have c6' : zs.getD (p + 8 + n) 0 = 0 := by simpa using c6
    rw [c6'] at k3
    clear HR HB c4 c3 c5 c6 c6'
    go_enter Try.func62, Try.ntmps62
    go_wp2_with (first | (go_at_call 63; refine HI.out.mono ?_; rintro e w9 ⟨rfl, hw⟩; obtain rfl := hw.symm) | (go_at_call 67; refine HM.out.mono ?_; rintro e w9 ⟨rfl, hw⟩; obtain rfl := hw.symm) | (go_at_call 51; refine (HT.out _).mono ?_; rintro e w9 ⟨rfl, hw⟩; obtain rfl := hw.symm))
    go_ret3
    exact ⟨rfl, rfl⟩
end Go.Proofs.Ytedihackifchcaa
