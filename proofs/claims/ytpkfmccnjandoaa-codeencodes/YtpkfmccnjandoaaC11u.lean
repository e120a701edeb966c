/- The document's there and Head. -/
import Derived.Test.YtpkfmccnjandoaaC11t
namespace Go.Proofs.Ytpkfmccnjandoaa
open Go.RowKit
set_option maxHeartbeats 1000000
set_option maxRecDepth 100000
set_option linter.unusedVariables false

def thereB (n : Nat) (at_ k : Int) : Bool := decide (at_ ≤ n) && decide ((n : Int) - at_ ≥ k)
theorem there_any (a : Option Addr) (n c : Nat) (at_ k : Int) (w : World) (h0 : 0 ≤ at_) (hn : n ≤ 2000000) :
    Calls Try.prog 28 #[.slice a n c, .int .i64 at_, .int .i64 k] w fun e w' => e = .returned (.bool (thereB n at_ k)) ∧ w' = w := by
  unfold thereB
  by_cases h : at_ ≤ n
  · have hw : IntKind.i64.wrap ((n : Int) - at_) = (n : Int) - at_ := by rw [IntKind.wrap_i64]; omega
    go_enter Try.func28, Try.ntmps28
    go_wp2
    go_ret
    refine ⟨?_, rfl⟩
    first | rfl | simp [h]
  · have d : decide (at_ ≤ (n : Int)) = false := by simpa using h
    rw [d, Bool.false_and]
    go_enter Try.func28, Try.ntmps28
    go_wp2
    go_ret
    first | exact ⟨rfl, rfl⟩ | exact ⟨by simp, rfl⟩
theorem dhead_yes (g o n c p FL : Nat) (X : Int) (TT : List Int) (w : World) (hX : X = 192 ∨ X = 193) (hp : p + 1 + FL ≤ n) (hc : n ≤ c) (hn : n ≤ 2000000) (hf : 0 < FL) (hT : TT.length = FL) (c0 : w.cell? ⟨g, o + p, none⟩ = some (.int .u8 X))
    (hRt : Reads w (some ⟨g, o + (p + 1), none⟩) FL (c - (p + 1)) TT)
    (hF : Calls Try.prog 42 #[.slice (some ⟨g, o + (p + 1), none⟩) (n - (p + 1)) (c - (p + 1))] w fun e w' => e = .returned (.int .i64 FL) ∧ Dr w w') :
    Calls Try.prog 21 #[.slice (some ⟨g, o, none⟩) n c, .int .i64 p] w fun e w' => HRet w w' (X, TT, 1 + (FL : Int), 0) e := by
  have HT := hidden fun wx => there_any (some ⟨g, o, none⟩) n c (p : Int) 1 wx (by omega) hn
  have e : thereB n (p : Int) 1 = true := by unfold thereB; simp; omega
  rw [e] at HT
  clear e
  have HF := hidden hF
  have HRt := hidden hRt
  have HTl := hidden hT
  clear hF hRt hT
  have h0 : ¬ (p : Int) < 0 := by omega
  have hpn : p < n := by omega
  have hne : ¬ c = p + 1 := by omega
  have hw1 : IntKind.i64.wrap ((p : Int) + 1) = (p : Int) + 1 := by rw [IntKind.wrap_i64]; omega
  have t1 : ((p : Int) + 1).toNat = p + 1 := by omega
  have l1 : (0 : Int) ≤ (p : Int) + 1 := by omega
  have l2 : (p : Int) + 1 ≤ (n : Int) := by omega
  have q0 : ((FL : Int) == 0) = false := by simp; omega
  have hw2 : IntKind.i64.wrap ((p : Int) + 1 + (FL : Int)) = (p : Int) + 1 + (FL : Int) := by rw [IntKind.wrap_i64]; omega
  have hw3 : IntKind.i64.wrap (1 + (FL : Int)) = 1 + (FL : Int) := by rw [IntKind.wrap_i64]; omega
  have hwx : IntKind.i64.wrap X = X := by rw [IntKind.wrap_i64]; omega
  have t2 : ((p : Int) + 1 + (FL : Int)).toNat = p + 1 + FL := by omega
  have t3 : p + 1 + FL - (p + 1) = FL := by omega
  have l3 : (0 : Int) ≤ (p : Int) + 1 + (FL : Int) := by omega
  have l4 : (p : Int) + 1 + (FL : Int) ≤ (c : Int) := by omega
  have l5 : (p : Int) + 1 ≤ (p : Int) + 1 + (FL : Int) := by omega
  rcases hX with rfl | rfl
  · go_enter Try.func21, Try.ntmps21
    go_wp2_with (first | (go_at_call 28; refine (HT.out _).mono ?_; rintro e w1 ⟨rfl, hw⟩; obtain rfl := hw.symm) | (go_at_call 42; refine HF.out.mono ?_; rintro e w2 ⟨rfl, hd⟩; have HD := hidden hd.below; have cc := cellLater hd.below c0; have HR2 := hidden (HRt.out.later hd.below); clear hd))
    have ca : (w2.alloc (.cells #[] 5)).cell? ⟨g, o + p, none⟩ = some (.int .u8 192) := cellLater ((Below.refl _ _).alloc (Nat.le_refl _) _) cc
    go_region_law (first | (refine step_copyOf (by rfl) _ _ (by rfl) w2.heap.size _ FL (c - (p + 1)) (some ⟨g, o + (p + 1), none⟩) TT (by rfl) (by rfl) (by first | exact made0 _ | exact own_later (made0 w2) ((Below.refl _ _).drew)) (HR2.out.later (by first | exact ((Below.refl _ _).drew).alloc (Nat.le_refl _) _ | exact ((Below.refl _ _).alloc (Nat.le_refl _) _).drew)) (by omega) (by simp) ?_; intro g1 c1 w1 ho1 hb1; have hb2 : Below w2.heap.size w2 w1 := Below.trans (by first | exact ((Below.refl _ _).drew).alloc (Nat.le_refl _) _ | exact ((Below.refl _ _).alloc (Nat.le_refl _) _).drew) hb1; have cc1 := cellLater hb2 cc; have HO1 := hidden ho1; have HB1 := hidden (HD.out.trans (hb2.mono HD.out.size)); clear ho1 hb1 hb2) | fail)
    all_goals (try go_wp2)
    all_goals (
      refine bodyPost_ret (v := .tuple #[.int .i64 192, .slice (some ⟨g1, 0, none⟩) FL c1, .int .i64 (1 + (FL : Int)), .int .i64 0]) (by simp [results, Try.results21, go_sem, Act.put]) rfl ⟨some ⟨g1, 0, none⟩, c1, ?_, ?_, HB1.out⟩
      · show _ = Ending.returned (.tuple #[_, .slice (some ⟨g1, 0, none⟩) TT.length c1, _, _])
        rw [HTl.out]
      · show World.ownsRow _ _ _ _ (.slice (some ⟨g1, 0, none⟩) TT.length c1) TT.length (bytesV TT)
        rw [HTl.out]; exact own_base HO1.out HD.out.size)
  · go_enter Try.func21, Try.ntmps21
    go_wp2_with (first | (go_at_call 28; refine (HT.out _).mono ?_; rintro e w1 ⟨rfl, hw⟩; obtain rfl := hw.symm) | (go_at_call 42; refine HF.out.mono ?_; rintro e w2 ⟨rfl, hd⟩; have HD := hidden hd.below; have cc := cellLater hd.below c0; have HR2 := hidden (HRt.out.later hd.below); clear hd))
    have ca : (w2.alloc (.cells #[] 5)).cell? ⟨g, o + p, none⟩ = some (.int .u8 193) := cellLater ((Below.refl _ _).alloc (Nat.le_refl _) _) cc
    go_region_law (first | (refine step_copyOf (by rfl) _ _ (by rfl) w2.heap.size _ FL (c - (p + 1)) (some ⟨g, o + (p + 1), none⟩) TT (by rfl) (by rfl) (by first | exact made0 _ | exact own_later (made0 w2) ((Below.refl _ _).drew)) (HR2.out.later (by first | exact ((Below.refl _ _).drew).alloc (Nat.le_refl _) _ | exact ((Below.refl _ _).alloc (Nat.le_refl _) _).drew)) (by omega) (by simp) ?_; intro g1 c1 w1 ho1 hb1; have hb2 : Below w2.heap.size w2 w1 := Below.trans (by first | exact ((Below.refl _ _).drew).alloc (Nat.le_refl _) _ | exact ((Below.refl _ _).alloc (Nat.le_refl _) _).drew) hb1; have cc1 := cellLater hb2 cc; have HO1 := hidden ho1; have HB1 := hidden (HD.out.trans (hb2.mono HD.out.size)); clear ho1 hb1 hb2) | fail)
    all_goals (try go_wp2)
    all_goals (
      refine bodyPost_ret (v := .tuple #[.int .i64 193, .slice (some ⟨g1, 0, none⟩) FL c1, .int .i64 (1 + (FL : Int)), .int .i64 0]) (by simp [results, Try.results21, go_sem, Act.put]) rfl ⟨some ⟨g1, 0, none⟩, c1, ?_, ?_, HB1.out⟩
      · show _ = Ending.returned (.tuple #[_, .slice (some ⟨g1, 0, none⟩) TT.length c1, _, _])
        rw [HTl.out]
      · show World.ownsRow _ _ _ _ (.slice (some ⟨g1, 0, none⟩) TT.length c1) TT.length (bytesV TT)
        rw [HTl.out]; exact own_base HO1.out HD.out.size)
theorem dhead_any (a : Option Addr) (n c : Nat) (at_ : Int) (zs : List Int) (w : World) (hr : Reads w a n c zs) (hb : OkB zs) (hn : n ≤ 2000000) (ha : at_ ≤ 9223372036854775807) :
    Calls Try.prog 21 #[.slice a n c, .int .i64 at_] w fun e w' => HRet w w' (hdR zs at_) e := by
  have hl := hr.1
  have hc := hr.2.1
  unfold hdR
  rw [hl]
  by_cases h0 : at_ < 0
  · rw [if_pos h0]
    clear hr hb
    go_enter Try.func21, Try.ntmps21
    go_wp2
    exact bodyPost_ret (v := .tuple #[.int .i64 0, .slice none 0 0, .int .i64 0, .int .i64 1]) (by simp [results, Try.results21, go_sem]) rfl (hret_none 1 (Below.refl _ _))
  rw [if_neg h0]
  obtain ⟨p, rfl⟩ := Int.eq_ofNat_of_zero_le (by omega : 0 ≤ at_)
  rw [Int.toNat_natCast]
  have HT := hidden fun wx => there_any a n c (p : Int) 1 wx (by omega) hn
  by_cases hp : n ≤ p
  · rw [if_pos (by omega)]
    have e : thereB n (p : Int) 1 = false := by unfold thereB; simp; omega
    rw [e] at HT
    clear hr hb
    go_enter Try.func21, Try.ntmps21
    go_wp2_with (first | (go_at_call 28; refine (HT.out _).mono ?_; rintro e w1 ⟨rfl, rfl⟩))
    exact bodyPost_ret (v := .tuple #[.int .i64 0, .slice none 0 0, .int .i64 0, .int .i64 90]) (by simp [results, Try.results21, go_sem]) rfl (hret_none 90 (Below.refl _ _))
  rw [if_neg (by omega)]
  have e : thereB n (p : Int) 1 = true := by unfold thereB; simp; omega
  rw [e] at HT
  clear e
  obtain ⟨g, o, rfl, hB⟩ := hr.bs (by omega)
  have c0 := hB.2 p (by omega)
  have bx := okb_at hb p
  have hwx : IntKind.i64.wrap (zs.getD p 0) = zs.getD p 0 := by rw [IntKind.wrap_i64]; omega
  by_cases hk : zs.getD p 0 ≠ 192 ∧ zs.getD p 0 ≠ 193
  · rw [if_pos hk]
    obtain ⟨hk1, hk2⟩ := hk
    clear hr hb hB
    generalize zs.getD p 0 = X at *
    have q1 : (X != 192) = true := by simpa using hk1
    have q2 : (X != 193) = true := by simpa using hk2
    go_enter Try.func21, Try.ntmps21
    go_wp2_with (first | (go_at_call 28; refine (HT.out _).mono ?_; rintro e w1 ⟨rfl, rfl⟩))
    exact bodyPost_ret (v := .tuple #[.int .i64 0, .slice none 0 0, .int .i64 0, .int .i64 112]) (by simp [results, Try.results21, go_sem]) rfl (hret_none 112 (Below.refl _ _))
  rw [if_neg hk]
  have hX : zs.getD p 0 = 192 ∨ zs.getD p 0 = 193 := by omega
  have hsd : seg zs (p + 1) (n - (p + 1)) = zs.drop (p + 1) := by unfold seg; rw [List.take_of_length_le (by rw [List.length_drop]; omega)]
  obtain ⟨P, hP, hRd⟩ : ∃ P, (if c = p + 1 then some (⟨g, o, none⟩ : Addr) else some ⟨g, o + (p + 1), none⟩) = some ⟨g, P, none⟩ ∧ Reads w (some ⟨g, P, none⟩) (n - (p + 1)) (c - (p + 1)) (zs.drop (p + 1)) := by
    by_cases e : c = p + 1
    · rw [if_pos e]
      refine ⟨o, rfl, by rw [List.length_drop]; omega, by omega, .inr ⟨_, rfl, fun i hi => by omega⟩⟩
    · rw [if_neg e]
      refine ⟨o + (p + 1), rfl, ?_⟩
      rw [← hsd]
      exact hB.sub (p + 1) (n - (p + 1)) (c - (p + 1)) (by omega) (by omega)
  have hbd : OkB (zs.drop (p + 1)) := fun x hx => hb x (List.mem_of_mem_drop hx)
  have HF := hidden (dfmt_any (some ⟨g, P, none⟩) (n - (p + 1)) (c - (p + 1)) (zs.drop (p + 1)) w hRd hbd (by omega))
  have hfl := (fmtL_le (zs.drop (p + 1))).1
  have hdl : (zs.drop (p + 1)).length = n - (p + 1) := by rw [List.length_drop]; omega
  rw [hdl] at hfl
  have hRt := hRd.take (fmtL (zs.drop (p + 1))) hfl (by simp)
  have htl : ((zs.drop (p + 1)).take (fmtL (zs.drop (p + 1)))).length = fmtL (zs.drop (p + 1)) := by rw [List.length_take]; omega
  generalize (zs.drop (p + 1)).take (fmtL (zs.drop (p + 1))) = TT at *
  generalize fmtL (zs.drop (p + 1)) = FL at *
  have hw1 : IntKind.i64.wrap ((p : Int) + 1) = (p : Int) + 1 := by rw [IntKind.wrap_i64]; omega
  have t1 : ((p : Int) + 1).toNat = p + 1 := by omega
  have l1 : (0 : Int) ≤ (p : Int) + 1 := by omega
  have l2 : (p : Int) + 1 ≤ (n : Int) := by omega
  have HRt := hidden hRt
  have HTl := hidden htl
  clear hr hb hB hRd hbd hsd hRt htl hdl
  generalize zs.getD p 0 = X at *
  by_cases hf : FL = 0
  · rw [if_pos hf]
    subst hf
    rcases hX with rfl | rfl
    all_goals (
      go_enter Try.func21, Try.ntmps21
      go_wp2_with (first | (go_at_call 28; refine (HT.out _).mono ?_; rintro e w1 ⟨rfl, hw⟩; obtain rfl := hw.symm) | (go_at_call 42; refine HF.out.mono ?_; rintro e w2 ⟨rfl, hd⟩; have HD := hidden hd.below; clear hd))
      exact bodyPost_ret (v := .tuple #[.int .i64 0, .slice none 0 0, .int .i64 0, .int .i64 112]) (by simp [results, Try.results21, go_sem]) rfl (hret_none 112 HD.out))
  · rw [if_neg hf]
    have hne : ¬ c = p + 1 := by omega
    rw [if_neg hne] at hP
    cases hP
    exact dhead_yes g o n c p FL X TT w hX (by omega) hc hn (by omega) HTl.out c0 HRt.out HF.out
end Go.Proofs.Ytpkfmccnjandoaa
