/- The way down a laid tree. -/
import Derived.Test.YtbifolpahmeaeaaR12f
import Derived.Test.YtbifolpahmeaeaaR12e
import Derived.Test.YtbifolpahmeaeaaB12i
namespace Go.Proofs.Ytbifolpahmeaeaa
open Go.RowKit Go.Maps
set_option maxHeartbeats 1000000
set_option maxRecDepth 100000
set_option linter.unusedVariables false

/-- these bytes lie at that place -/
structure InAt (zs B : List Int) (p : Nat) : Prop where
  fit : p + B.length ≤ zs.length
  eq : ∀ i, i < B.length → zs.getD (p + i) 0 = B.getD i 0
theorem InAt.left {zs B C : List Int} {p : Nat} (h : InAt zs (B ++ C) p) : InAt zs B p := by
  have hf := h.fit
  rw [List.length_append] at hf
  refine ⟨by omega, fun i hi => ?_⟩
  rw [h.eq i (by rw [List.length_append]; omega), List.getD_eq_getElem?_getD, List.getElem?_append_left hi, ← List.getD_eq_getElem?_getD]
theorem InAt.right {zs B C : List Int} {p : Nat} (h : InAt zs (B ++ C) p) : InAt zs C (p + B.length) := by
  have hf := h.fit
  rw [List.length_append] at hf
  refine ⟨by omega, fun i hi => ?_⟩
  have := h.eq (B.length + i) (by rw [List.length_append]; omega)
  rw [List.getD_eq_getElem?_getD (l := B ++ C), List.getElem?_append_right (by omega), Nat.add_sub_cancel_left, ← List.getD_eq_getElem?_getD] at this
  rw [Nat.add_assoc]
  exact this
theorem InAt.first {zs B : List Int} {p : Nat} {x : Int} (h : InAt zs (x :: B) p) : nuV zs p 1 = x.toNat := by
  have := h.eq 0 (by simp)
  show (zs.getD p 0).toNat = _
  rw [Nat.add_zero] at this
  rw [this]; rfl
theorem InAt.word {zs : List Int} {p x : Nat} (h : InAt zs (putL (x : Int) 4) p) (hx : x < 4294967296) : nuV zs p 4 = x := by
  have e0 := h.eq 0 (by show 0 < 4; omega)
  have e1 := h.eq 1 (by show 1 < 4; omega)
  have e2 := h.eq 2 (by show 2 < 4; omega)
  have e3 := h.eq 3 (by show 3 < 4; omega)
  rw [Nat.add_zero] at e0
  show (beV zs p 4).toNat = x
  unfold beV
  simp only [e0, e1, e2, e3]
  simp [putL]
  omega
/-- these bits come at that place -/
def BtsAt (zs : List Int) : Ta → List Nat → Prop
  | _, [] => True
  | t, b :: bs => t.ad + 1 ≤ zs.length ∧ bitV zs t = b ∧ BtsAt zs (bhd t) bs
def adv (t : Ta) : List Nat → Ta
  | [] => t
  | _ :: bs => adv (bhd t) bs
theorem down (zs : List Int) : ∀ (f : Nat) (l : List Nat) (T i fuel : Nat) (t : Ta), l.length ≤ f → i < l.length → (∀ x ∈ l, x < 4294967296) → T + (ndL f T l).length < 4294967296 → InAt zs (ndL f T l) T → BtsAt zs t (way f i l.length) → (way f i l.length).length ≤ fuel →
    ∃ p, dsR zs fuel T t = (0, p, adv t (way f i l.length)) ∧ lfR zs p = (0, 2, [l.getD i 0])
  | 0, l, T, i, fuel, t, hf, hi, hb, hT, hz, ht, hfu => by omega
  | f + 1, l, T, i, fuel, t, hf, hi, hb, hT, hz, ht, hfu => by
    by_cases h1 : l.length = 1
    · have hi0 : i = 0 := by omega
      subst hi0
      have hw : way (f + 1) 0 l.length = [] := by unfold way; rw [if_pos (by omega)]
      have hX : l.getD 0 0 < 4294967296 := hb _ (by rw [List.getD_eq_getElem?_getD, List.getElem?_eq_getElem (by omega)]; simp)
      have hnd : ndL (f + 1) T l = if l.getD 0 0 < 256 then [2, ((l.getD 0 0 : Nat) : Int)] else [4] ++ putL ((l.getD 0 0 : Nat) : Int) 4 := by unfold ndL; rw [if_neg (by omega), if_pos h1]
      rw [hw]
      rw [hnd] at hz
      generalize l.getD 0 0 = X at *
      refine ⟨T, ?_, ?_⟩
      · unfold dsR
        split at hz
        · have hfit := hz.fit
          rw [if_pos (by simp at hfit; omega), hz.first, if_pos (by decide)]; rfl
        · have hfit := hz.fit
          rw [if_pos (by simp [putL] at hfit; omega), hz.first, if_pos (by decide)]; rfl
      · unfold lfR
        split at hz
        · rename_i hx
          have hfit := hz.fit
          have h2 := (show InAt zs ([2] ++ [(X : Int)]) T from hz).right
          have hv : nuV zs (T + 1) 1 = X := by have := h2.first; simpa using this
          have hE : tkE zs (T + 1) 0 1 = 0 := by unfold tkE; rw [if_pos rfl, if_pos (by simp at hfit; omega)]
          rw [hz.first, if_neg (by decide), if_pos (by decide), hE]
          unfold tkV
          rw [if_pos hE, hv]
        · have hfit := hz.fit
          have h2 := hz.right
          have hv : nuV zs (T + 1) 4 = X := h2.word hX
          have hE : tkE zs (T + 1) 0 4 = 0 := by unfold tkE; rw [if_pos rfl, if_pos (by simp [putL] at hfit; omega)]
          have hq : nuV zs T 1 = 4 := hz.first
          rw [hq, if_neg (by decide), if_neg (by decide), if_neg (by decide), if_pos rfl, hE]
          unfold tkV
          rw [if_pos hE, hv]
    · have hn2 : 2 ≤ l.length := by omega
      obtain ⟨M2, hM2⟩ : ∃ M2 : Nat, M2 = l.length / 2 := ⟨_, rfl⟩
      have hlt : (l.take M2).length = M2 := by rw [List.length_take]; omega
      have hld : (l.drop M2).length = l.length - M2 := by rw [List.length_drop]
      obtain ⟨LA, hLA⟩ : ∃ LA, LA = (T + 9) % 4294967296 := ⟨_, rfl⟩
      obtain ⟨zL, hzL⟩ : ∃ zL, zL = ndL f LA (l.take M2) := ⟨_, rfl⟩
      obtain ⟨RA, hRA⟩ : ∃ RA, RA = (LA + zL.length) % 4294967296 := ⟨_, rfl⟩
      obtain ⟨zR, hzR⟩ : ∃ zR, zR = ndL f RA (l.drop M2) := ⟨_, rfl⟩
      have hnd : ndL (f + 1) T l = [0] ++ (putL (LA : Nat) 4 ++ (putL (RA : Nat) 4 ++ (zL ++ zR))) := by
        conv => lhs; unfold ndL
        rw [if_neg (by omega), if_neg (by omega), ← hM2, ← hLA, ← hzL, ← hRA, ← hzR]
      have h4 : ∀ x : Int, (putL x 4).length = 4 := fun x => rfl
      rw [hnd] at hz hT
      have hfit := hz.fit
      simp only [List.length_append, h4, List.length_cons, List.length_nil] at hT hfit
      have eLA : LA = T + 9 := by omega
      have eRA : RA = T + 9 + zL.length := by omega
      have q0 : nuV zs T 1 = 0 := hz.first
      have q1 : nuV zs (T + 1) 4 = LA := hz.right.left.word (by omega)
      have q2 : nuV zs (T + 1 + 4) 4 = RA := hz.right.right.left.word (by omega)
      have r1 : InAt zs zL LA := by
        have := hz.right.right.right.left
        rw [eLA]
        exact this
      have r2 : InAt zs zR RA := by
        have := hz.right.right.right.right
        rw [eRA]
        exact this
      by_cases hi2 : i < M2
      · have hw : way (f + 1) i l.length = 0 :: way f i M2 := by
          have := way_lo (f + 1) i l.length hf (by omega) (by omega)
          rw [← hM2] at this
          exact this
        rw [hw] at ht hfu ⊢
        obtain ⟨t1, t2, t3⟩ := ht
        obtain ⟨fuel, rfl⟩ : ∃ fu, fuel = fu + 1 := ⟨fuel - 1, by simp at hfu; omega⟩
        obtain ⟨p, p1, p2⟩ := down zs f (l.take M2) LA i fuel (bhd t) (by omega) (by omega) (fun x hx => hb x (List.mem_of_mem_take hx)) (by rw [← hzL]; omega) (by rw [← hzL]; exact r1) (by rw [hlt]; exact t3) (by rw [hlt]; simpa using hfu)
        refine ⟨p, ?_, ?_⟩
        · rw [hlt] at p1
          unfold dsR
          rw [if_pos (by omega), q0, if_neg (by simp)]
          show (if _ then if _ then dsR zs fuel _ _ else _ else _) = _
          rw [if_pos t1, t2, if_pos (by omega), show T + 1 + 4 * 0 = T + 1 by omega, q1, p1]
          rfl
        · rw [p2]
          simp [List.getD_eq_getElem?_getD, hi2]
      · have hw : way (f + 1) i l.length = 1 :: way f (i - M2) (l.length - M2) := by
          have := way_hi (f + 1) i l.length hf (by omega) (by omega)
          rw [← hM2] at this
          exact this
        rw [hw] at ht hfu ⊢
        obtain ⟨t1, t2, t3⟩ := ht
        obtain ⟨fuel, rfl⟩ : ∃ fu, fuel = fu + 1 := ⟨fuel - 1, by simp at hfu; omega⟩
        obtain ⟨p, p1, p2⟩ := down zs f (l.drop M2) RA (i - M2) fuel (bhd t) (by omega) (by omega) (fun x hx => hb x (List.mem_of_mem_drop hx)) (by rw [← hzR]; omega) (by rw [← hzR]; exact r2) (by rw [hld]; exact t3) (by rw [hld]; simpa using hfu)
        refine ⟨p, ?_, ?_⟩
        · rw [hld] at p1
          unfold dsR
          rw [if_pos (by omega), q0, if_neg (by simp)]
          show (if _ then if _ then dsR zs fuel _ _ else _ else _) = _
          rw [if_pos t1, t2, if_pos (by omega), show T + 1 + 4 * 1 = T + 1 + 4 by omega, q2, p1]
          rfl
        · rw [p2]
          simp [List.getD_eq_getElem?_getD, List.getElem?_drop, show M2 + (i - M2) = i by omega]
end Go.Proofs.Ytbifolpahmeaeaa
