/- What a call leaves is a stack in order: lists and numbers alone. -/
import Derived.Test.YthhkennomnmjkaaS10m
namespace Go.Proofs.Ythhkennomnmjkaa
open Go.RowKit
set_option maxHeartbeats 1000000
set_option maxRecDepth 100000
set_option linter.unusedVariables false

theorem ok_new (n : Nat) (h : n ≤ 65536) : OkK ⟨n, [], 0, false⟩ := ⟨Nat.zero_le _, h, rfl, (fun c hc => by cases hc), (fun h => by simp at h), fun _ => ⟨rfl, .inl rfl⟩⟩
/-- other bytes above the current frame's locals -/
theorem ok_above {s : Ks} (ok : OkK s) (hon : s.on = true) {ys : List Int} (h1 : s.bs.take (endK s) = ys.take (endK s)) (h2 : endK s ≤ ys.length) (h3 : ys.length % 4 = 0) (h4 : OkB ys) (h5 : ys.length ≤ s.size) : OkK { s with bs := ys } := by
  have hb := ok.bd hon
  have hf := (ok.cur hon).fr.bd
  have hfl := (ok.cur hon).fr.len
  refine ⟨h5, ok.most, h3, h4, fun _ => (ok.cur hon).move h1 ?_ ?_ (Nat.le_refl _), fun h => by rw [show ({ s with bs := ys } : Ks).on = s.on from rfl, hon] at h; cases h⟩
  · unfold endK; omega
  · exact h2
/-- other bytes from the current frame's locals on -/
theorem ok_locals {s : Ks} (ok : OkK s) (hon : s.on = true) {ys : List Int} (h1 : s.bs.take (posK s) = ys.take (posK s)) (h2 : s.bs.length = ys.length) (h4 : OkB ys) : OkK { s with bs := ys } := by
  have hb := ok.bd hon
  have hf := (ok.cur hon).fr.bd
  have hl := ok.loc hon
  have hsz := ok.sz
  have hmd := ok.mod
  refine ⟨by simp only; omega, ok.most, by simp only; omega, h4, fun _ => (ok.cur hon).move h1 ?_ ?_ (Nat.le_refl _), fun h => by rw [show ({ s with bs := ys } : Ks).on = s.on from rfl, hon] at h; cases h⟩
  · omega
  · simp only; omega
theorem putL4_len (x : Int) : (putL x 4).length = 4 := rfl
theorem okb_put (x : Int) : OkB (putL x 4) := putL_bd x 4
theorem okb_app {a b : List Int} (ha : OkB a) (hb : OkB b) : OkB (a ++ b) := append_bd a b ha hb
theorem okb_take {a : List Int} (ha : OkB a) (k : Nat) : OkB (a.take k) := fun c hc => ha c (List.mem_of_mem_take hc)
theorem okb_drop {a : List Int} (ha : OkB a) (k : Nat) : OkB (a.drop k) := fun c hc => ha c (List.mem_of_mem_drop hc)
theorem okb_zer (k : Nat) : OkB (zer8 k) := fun c hc => by
  have := List.eq_of_mem_replicate hc
  omega
theorem ok_app {s : Ks} (ok : OkK s) (hon : s.on = true) {ds : List Int} (h3 : ds.length % 4 = 0) (h4 : OkB ds) (h5 : s.bs.length + ds.length ≤ s.size) : OkK { s with bs := s.bs ++ ds } := by
  have hb := ok.bd hon
  have hm := ok.mod
  refine ok_above ok hon ?_ (by simp; omega) (by simp; omega) (okb_app ok.okb h4) (by simp; omega)
  rw [List.take_append_of_le_length (by omega)]
theorem ok_push {s : Ks} (ok : OkK s) (x : Nat) : OkK (pushS s x) := by
  unfold pushS
  split
  · rename_i h
    obtain ⟨h1, h2⟩ := roomFor_zero h
    exact ok_app ok (lack_zero h1).1 (by simp [putL]) (okb_put _) (by simp [putL]; omega)
  · exact ok
theorem ok_stub {s : Ks} (ok : OkK s) (x y z : Nat) : OkK (stubS s x y z) := by
  unfold stubS
  split
  · rename_i h
    obtain ⟨h1, h2⟩ := roomFor_zero h
    exact ok_app ok (lack_zero h1).1 (by simp [putStub, putL]) (okb_app (okb_put _) (okb_app (okb_put _) (okb_app (okb_put _) (okb_put _)))) (by simp [putStub, putL]; omega)
  · exact ok
theorem ok_dup {s : Ks} (ok : OkK s) (n : Nat) : OkK (dupS s n) := by
  unfold dupS
  split
  · rename_i h
    obtain ⟨h1, h2⟩ := roomFor_zero h
    obtain ⟨h3, h4⟩ := lack_zero h1
    have hb := ok.bd h3
    exact ok_app ok h3 (by simp; omega) (okb_drop ok.okb _) (by simp; omega)
  · exact ok
theorem ok_pop {s : Ks} (ok : OkK s) : OkK (popS s) := by
  unfold popS
  split
  · rename_i h
    obtain ⟨h3, h4⟩ := lack_zero h
    have hb := ok.bd h3
    have hm := ok.mod
    have hs := ok.sz
    refine ok_above ok h3 ?_ (by simp; omega) (by simp; omega) (okb_take ok.okb _) (by simp; omega)
    rw [List.take_take, Nat.min_eq_left (by omega)]
  · exact ok
theorem ok_roll {s : Ks} (ok : OkK s) (n k : Nat) : OkK (rollS s n k) := by
  unfold rollS
  split
  · rename_i h
    obtain ⟨h3, h4⟩ := lack_zero h.1
    have hb := ok.bd h3
    have hm := ok.mod
    have hs := ok.sz
    have hr := rollR_lt n k (by have := h.2; omega)
    generalize rollR n k = r at *
    have hl : (rollL s.bs n r).length = s.bs.length := by
      unfold rollL
      simp; omega
    refine ok_above ok h3 ?_ (by omega) (by omega) ?_ (by omega)
    · unfold rollL
      rw [List.take_append_of_le_length (by simp; omega), List.take_take, Nat.min_eq_left (by omega)]
    · exact okb_app (okb_take ok.okb _) (okb_app (okb_drop ok.okb _) (okb_take (okb_drop ok.okb _) _))
  · exact ok
theorem take_self {s : List Int} {j k : Nat} (h : j ≤ k) : s.take j = (s.take k).take j := by rw [List.take_take, Nat.min_eq_left h]
theorem Chn.cut {zs : List Int} {f t k : Nat} (h : Chn zs f t) (ht : t ≤ k) (hk : k ≤ zs.length) : Chn (zs.take k) f t := by
  have hb := h.fr.bd
  have hl := h.fr.len
  exact h.move (k := k) (by rw [List.take_take, Nat.min_self]) (by omega) (by omega) (by simp; omega)
theorem Chn.parts {zs : List Int} {f t : Nat} (h : Chn zs f t) : f = 0 ∨ (16 ≤ f ∧ Chn zs (nu zs (f - 4)) (f - 16)) := by
  cases h with
  | base h => exact .inl rfl
  | next g1 g2 g3 g4 => exact .inr ⟨g2, g4⟩
theorem ok_leave {s : Ks} (ok : OkK s) : OkK (leaveS s) := by
  unfold leaveS
  split
  · rename_i h
    obtain ⟨h3, h4⟩ := lack_zero h
    have hb := ok.bd h3
    have hs := ok.sz
    have hc := ok.cur h3
    have hl : (s.bs.take s.fr).length = s.fr := by simp; omega
    refine ⟨by simp only [hl]; omega, ok.most, by simp only [hl]; omega, okb_take ok.okb _, (fun h => by simp at h), fun _ => ⟨rfl, ?_⟩⟩
    by_cases h0 : s.fr = 0
    · exact .inl (by simp [h0])
    · right
      simp only [hl]
      rcases hc.parts with e | ⟨g2, g4⟩
      · omega
      · refine ⟨g2, ?_⟩
        rw [← nu_take (k := s.fr) (zs := s.bs) (by rw [List.take_take, Nat.min_self]) _ (by omega)]
        exact g4.cut (by omega) (by omega)
  · exact ok
theorem ok_unstub {s : Ks} (ok : OkK s) : OkK (unstubS s) := by
  unfold unstubS
  split
  · rename_i h
    obtain ⟨h1, h2⟩ := stub_zero ok h
    have hs := ok.sz
    have hm := ok.mod
    have hl : (s.bs.take (s.bs.length - 16)).length = s.bs.length - 16 := by simp
    refine ⟨by simp only [hl]; omega, ok.most, by simp only [hl]; omega, okb_take ok.okb _, fun _ => ?_, (fun h => by simp at h)⟩
    simp only [hl]
    cases hon : s.on with
    | true =>
      obtain ⟨h5, h6⟩ := h2 hon
      have hb := ok.bd hon
      have hc := ok.cur hon
      have hcb := hc.fr.bd
      have hcl := hc.fr.len
      rw [h6]
      have he : endK s = s.fr + nu s.bs s.fr := rfl
      exact hc.move (k := s.bs.length - 16) (by rw [List.take_take, Nat.min_self]) (by omega) (by omega) (by rw [hl]; omega)
    | false =>
      rcases (ok.non hon).2 with h5 | ⟨_, h5⟩
      · rw [h5] at h1; simp at h1
      · exact h5.cut (Nat.le_refl _) (by omega)
  · exact ok
theorem nu_put (a b : List Int) (x : Nat) (hx : x < 4294967296) : nu (a ++ (putL (x : Int) 4 ++ b)) a.length = x := by
  have e : ∀ i, i < 4 → (a ++ (putL (x : Int) 4 ++ b)).getD (a.length + i) 0 = (putL (x : Int) 4).getD i 0 := fun i hi => by
    rw [List.getD_eq_getElem?_getD, List.getD_eq_getElem?_getD, List.getElem?_append_right (by omega), Nat.add_sub_cancel_left, List.getElem?_append_left (by rw [putL4_len]; omega)]
  unfold nu
  rw [beV4, show a.length = a.length + 0 from rfl, e 0 (by omega), Nat.add_zero, e 1 (by omega), e 2 (by omega), e 3 (by omega)]
  simp only [putL, List.getD_eq_getElem?_getD]
  simp
  omega
theorem nu_put1 (a b : List Int) (x y : Nat) (hx : x < 4294967296) : nu (a ++ (putL (y : Int) 4 ++ (putL (x : Int) 4 ++ b))) (a.length + 4) = x := by
  have := nu_put (a ++ putL (y : Int) 4) b x hx
  rw [List.append_assoc, List.length_append, putL4_len] at this
  exact this
theorem newF_len (f : List Int) : (newF f).length = posF f + szF f := by
  have h := posF_mod f
  unfold newF
  simp only [List.length_append, putL4_len, zer8_len]
  omega
theorem okb_newF {f : List Int} (h : OkB f) : OkB (newF f) := okb_app (okb_app (okb_app (okb_put _) (okb_put _)) h) (okb_zer _)
theorem frF_new (bs f : List Int) (h : fmtL f ≠ 0) (h2 : fmtL f = f.length) : fmtL ((bs ++ newF f).drop (bs.length + 8)) = f.length ∧ frF (bs ++ newF f) bs.length = f := by
  have e : (bs ++ newF f).drop (bs.length + 8) = f ++ zer8 (posF f + szF f - 8 - f.length) := by
    rw [List.drop_append, List.drop_of_length_le (by omega), List.nil_append, Nat.add_sub_cancel_left]
    unfold newF
    rw [List.append_assoc, List.drop_append, List.drop_of_length_le (by simp [putL]), List.nil_append]
    simp [putL]
  have e2 : fmtL ((bs ++ newF f).drop (bs.length + 8)) = f.length := by
    rw [e, fmtL_app f _ h, h2]
  refine ⟨e2, ?_⟩
  unfold frF
  rw [e2]
  unfold seg
  rw [e]
  simp
theorem isFr_new (bs f : List Int) (h : fmtL f ≠ 0) (h2 : fmtL f = f.length) (hp : posF f + szF f < 4294967296) : IsFr (bs ++ newF f) bs.length (bs ++ newF f).length := by
  obtain ⟨e1, e2⟩ := frF_new bs f h h2
  have hl := newF_len f
  refine ⟨by rw [e1, ← h2]; exact h, ?_, ?_, by rw [e2, List.length_append, hl]; omega, Nat.le_refl _⟩
  · rw [e2]
    unfold newF
    rw [List.append_assoc, List.append_assoc]
    exact nu_put bs _ (posF f + szF f) hp
  · rw [e2]
    unfold newF
    rw [List.append_assoc, List.append_assoc]
    exact nu_put1 bs _ (posF f) (posF f + szF f) (by omega)
theorem ok_enter {s : Ks} (ok : OkK s) {f : List Int} (hf : OkB f) : OkK (enterS s f) := by
  unfold enterS
  split
  · rename_i h
    unfold enterE at h
    split at h
    · omega
    · rename_i h1
      split at h
      · omega
      · rename_i h2
        have h0 : (locR f).2.2 = 0 := Classical.byContradiction fun e => h1 (.inl e)
        obtain ⟨_, e2, e3⟩ := loc_zero h0
        have hs : s.on = true → stubE s = 0 := fun hon => Classical.byContradiction fun e => h1 (.inr ⟨hon, e⟩)
        have h3 : s.bs.length + (posF f + szF f) ≤ s.size := by
          unfold roomE at h2
          split at h2
          · simp at h2
          · omega
        have hl := newF_len f
        have hp := posF_mod f
        have hz := szF_mod f
        have hm := ok.mod
        have hmo := ok.most
        have hfr := isFr_new s.bs f e2 e3 (by omega)
        have htk : s.bs.take s.bs.length = (s.bs ++ newF f).take s.bs.length := by simp
        refine ⟨by simp only [List.length_append]; omega, ok.most, by simp only [List.length_append]; omega, okb_app ok.okb (okb_newF hf), fun _ => ?_, (fun h => by simp at h)⟩
        simp only
        by_cases hz0 : s.bs.length = 0
        · rw [hz0] at hfr ⊢
          exact .base hfr
        · have h16 : 16 ≤ s.bs.length ∧ Chn s.bs (nu s.bs (s.bs.length - 4)) (s.bs.length - 16) := by
            cases hon : s.on with
            | true =>
              obtain ⟨g1, g2⟩ := stub_zero ok (hs hon)
              obtain ⟨g3, g4⟩ := g2 hon
              have hb := ok.bd hon
              have hc := ok.cur hon
              have hcb := hc.fr.bd
              have hcl := hc.fr.len
              have he : endK s = s.fr + nu s.bs s.fr := rfl
              rw [g4]
              exact ⟨g1, hc.move (k := s.bs.length) rfl (by omega) (by omega) (by omega)⟩
            | false =>
              rcases (ok.non hon).2 with g | g
              · rw [g] at hz0; exact absurd rfl hz0
              · exact g
          refine .next hm h16.1 hfr ?_
          rw [← nu_take htk (s.bs.length - 4) (by omega)]
          have hcb := h16.2.fr.bd
          have hcl := h16.2.fr.len
          exact h16.2.move (k := s.bs.length) htk (by omega) (by omega) (by simp; omega)
  · exact ok
end Go.Proofs.Ythhkennomnmjkaa
