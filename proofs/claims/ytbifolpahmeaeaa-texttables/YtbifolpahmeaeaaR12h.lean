/- A piece of a packed text, by a table that is laid. -/
import Derived.Test.YtbifolpahmeaeaaR12g
namespace Go.Proofs.Ytbifolpahmeaeaa
open Go.RowKit Go.Maps
set_option maxHeartbeats 1000000
set_option maxRecDepth 100000
set_option linter.unusedVariables false

theorem way_log : ∀ (k f i n : Nat), n ≤ 2 ^ k → (way f i n).length ≤ k
  | k, 0, _, _, _ => by simp [way]
  | k, f + 1, i, n, h => by
    unfold way
    split
    · simp
    · rename_i h1
      match k with
      | 0 => simp at h; omega
      | k + 1 =>
        have h2 : n ≤ 2 * 2 ^ k := by rw [Nat.pow_succ] at h; omega
        split
        · have := way_log k f i (n / 2) (by omega)
          simp; omega
        · have := way_log k f (i - n / 2) (n - n / 2) (by omega)
          simp; omega
theorem tb_root {zs : List Int} {T : Nat} {A : List Nat} (h : InAt zs (tbL T A) T) (hT : T + (tbL T A).length < 4294967296) : (T + 8) % 4294967296 + 4 ≤ zs.length ∧ nuV zs ((T + 8) % 4294967296) 4 = T + 12 ∧ InAt zs (rtL T A) (T + 12) ∧ tbA T = T + 12 ∧ T + 12 + (rtL T A).length < 4294967296 := by
  have h4 : ∀ x : Int, (putL x 4).length = 4 := fun x => rfl
  have hl : (tbL T A).length = 12 + (rtL T A).length := by unfold tbL; simp only [List.length_append, h4]; omega
  have hfit := h.fit
  have et : tbA T = T + 12 := by unfold tbA; omega
  have e8 : (T + 8) % 4294967296 = T + 8 := by omega
  unfold tbL at h
  have q := h.right.right.left.word (by rw [et]; omega)
  rw [e8]
  refine ⟨by omega, ?_, h.right.right.right, et, by omega⟩
  rw [← et]
  exact q
theorem piece_end {zs : List Int} {T : Nat} {A : List Nat} {t : Ta} (h : InAt zs (tbL T A) T) (hT : T + (tbL T A).length < 4294967296) (h0 : T ≠ 0) (hb : t.bit ≤ 7) (ht : BtsAt zs t [0]) : pkN zs T t = ⟨0, 1, [], bhd t⟩ := by
  obtain ⟨r1, r2, r3, r4, r5⟩ := tb_root h hT
  obtain ⟨t1, t2, _⟩ := ht
  have hfit := r3.fit
  have h4 : ∀ x : Int, (putL x 4).length = 4 := fun x => rfl
  have hrl : (rtL T A).length = 10 + (ndL A.length (rtA T) A).length := by unfold rtL; simp [putL]; omega
  have eL : ltA T = T + 21 := by unfold ltA; rw [r4]; omega
  unfold rtL at r3
  have q0 : nuV zs (T + 12) 1 = 0 := r3.first
  have q1 : nuV zs (T + 12 + 1) 4 = ltA T := r3.right.left.word (by rw [eL]; omega)
  have q2 : nuV zs (ltA T) 1 = 1 := by
    have := r3.right.right.right.left.first
    rw [eL]
    exact this
  have hd : dsR zs 256 (T + 12) t = (0, ltA T, bhd t) := by
    unfold dsR
    rw [if_pos (by omega), q0, if_neg (by simp)]
    show (if _ then if _ then dsR zs 255 _ _ else _ else _) = _
    rw [if_pos t1, t2, if_pos (by omega), show T + 12 + 1 + 4 * 0 = T + 12 + 1 by omega, q1]
    unfold dsR
    rw [if_pos (by rw [eL]; omega), q2, if_pos (by decide)]
  have hl : lfR zs (ltA T) = (0, 1, []) := by unfold lfR; rw [if_pos q2]
  unfold pkN
  rw [if_neg h0, if_pos r1, if_pos hb, r2, hd, if_pos rfl, hl]
theorem piece_char {zs : List Int} {T : Nat} {A : List Nat} {t : Ta} (i : Nat) (h : InAt zs (tbL T A) T) (hT : T + (tbL T A).length < 4294967296) (h0 : T ≠ 0) (hb : t.bit ≤ 7) (hi : i < A.length) (hA : A.length ≤ 1024) (hx : ∀ x ∈ A, x < 4294967296) (ht : BtsAt zs t (1 :: way A.length i A.length)) : pkN zs T t = ⟨0, 2, [A.getD i 0], adv t (1 :: way A.length i A.length)⟩ := by
  obtain ⟨r1, r2, r3, r4, r5⟩ := tb_root h hT
  obtain ⟨t1, t2, t3⟩ := ht
  have hfit := r3.fit
  have hrl : (rtL T A).length = 10 + (ndL A.length (rtA T) A).length := by unfold rtL; simp [putL]; omega
  have eL : ltA T = T + 21 := by unfold ltA; rw [r4]; omega
  have eR : rtA T = T + 22 := by unfold rtA; rw [eL]; omega
  unfold rtL at r3
  have q0 : nuV zs (T + 12) 1 = 0 := r3.first
  have q1 : nuV zs (T + 12 + 1 + 4) 4 = rtA T := r3.right.right.left.word (by rw [eR]; omega)
  have r6 : InAt zs (ndL A.length (rtA T) A) (rtA T) := by
    have := r3.right.right.right.right
    conv => arg 3; rw [eR]
    exact this
  obtain ⟨p, p1, p2⟩ := down zs A.length A (rtA T) i 255 (bhd t) (Nat.le_refl _) hi hx (by omega) r6 t3 (by have := way_log 10 A.length i A.length (by omega); omega)
  have hd : dsR zs 256 (T + 12) t = (0, p, adv t (1 :: way A.length i A.length)) := by
    unfold dsR
    rw [if_pos (by omega), q0, if_neg (by simp)]
    show (if _ then if _ then dsR zs 255 _ _ else _ else _) = _
    rw [if_pos t1, t2, if_pos (by omega), show T + 12 + 1 + 4 * 1 = T + 12 + 1 + 4 by omega, q1, p1]
    rfl
  unfold pkN
  rw [if_neg h0, if_pos r1, if_pos hb, r2, hd, if_pos rfl, p2]
end Go.Proofs.Ytbifolpahmeaeaa
