/- Lists: what is laid is read as it was; what is cut is not read. -/
import Derived.Test.YtpkfmccnjandoaaC11y
namespace Go.Proofs.Ytpkfmccnjandoaa
open Go.RowKit
set_option maxHeartbeats 1000000
set_option maxRecDepth 100000
set_option linter.unusedVariables false

theorem drop_at (zs : List Int) (p i : Nat) : (zs.drop p).getD i 0 = zs.getD (p + i) 0 := by simp [List.getD_eq_getElem?_getD]
theorem putL_1 (x : Int) : putL x 1 = [x % 256] := rfl
theorem putL_2 (x : Int) : putL x 2 = [x / 256 % 256, x % 256] := rfl
theorem putL_4 (x : Int) : putL x 4 = [x / 16777216 % 256, x / 65536 % 256, x / 256 % 256, x % 256] := rfl
theorem num_1 (zs rest : List Int) (p : Nat) (op : Int) (h : zs.drop p = putL op 1 ++ rest) (hb : 0 ≤ op ∧ op < 128) : numO zs p = some (op, p + 1) := by
  have hl : zs.length - p = 1 + rest.length := by have := congrArg List.length h; rw [List.length_drop, List.length_append] at this; simpa [putL] using this
  have e0 : zs.getD p 0 = op := by
    have := drop_at zs p 0
    rw [h, putL_1] at this
    simp only [Nat.add_zero, List.cons_append, List.getD_cons_zero] at this
    omega
  unfold numO
  rw [if_neg (by omega), e0]
  have hf : formR op = (1, 0) := by unfold formR; rw [if_pos (by omega)]
  rw [hf, if_neg (by simp only; omega)]
  simp only
  rw [beV_1, e0, Int.sub_zero]
theorem num_2 (zs rest : List Int) (p : Nat) (op : Int) (h : zs.drop p = putL (op + 32768) 2 ++ rest) (hb : 0 ≤ op ∧ op ≤ 16383) : numO zs p = some (op, p + 2) := by
  have hl : zs.length - p = 2 + rest.length := by have := congrArg List.length h; rw [List.length_drop, List.length_append] at this; simpa [putL] using this
  have e0 : zs.getD p 0 = 128 + op / 256 := by
    have := drop_at zs p 0
    rw [h, putL_2] at this
    simp only [Nat.add_zero, List.cons_append, List.getD_cons_zero] at this
    omega
  have e1 : zs.getD (p + 1) 0 = op % 256 := by
    have := drop_at zs p 1
    rw [h, putL_2] at this
    simp only [List.cons_append, List.getD_cons_succ, List.getD_cons_zero] at this
    omega
  unfold numO
  rw [if_neg (by omega), e0]
  have hf : formR (128 + op / 256) = (2, 32768) := by unfold formR; rw [if_neg (by omega), if_pos (by omega)]
  rw [hf, if_neg (by simp only; omega)]
  simp only
  rw [beV_2, e0, e1]
  simp only [Option.some.injEq, Prod.mk.injEq, and_true]
  omega
theorem num_4 (zs rest : List Int) (p : Nat) (op : Int) (h : zs.drop p = putL (op + 3221225472) 4 ++ rest) (hb : 0 ≤ op ∧ op ≤ 16383) : numO zs p = some (op, p + 4) := by
  have hl : zs.length - p = 4 + rest.length := by have := congrArg List.length h; rw [List.length_drop, List.length_append] at this; simpa [putL] using this
  have e0 : zs.getD p 0 = 192 := by
    have := drop_at zs p 0
    rw [h, putL_4] at this
    simp only [Nat.add_zero, List.cons_append, List.getD_cons_zero] at this
    omega
  have e1 : zs.getD (p + 1) 0 = 0 := by
    have := drop_at zs p 1
    rw [h, putL_4] at this
    simp only [List.cons_append, List.getD_cons_succ, List.getD_cons_zero] at this
    omega
  have e2 : zs.getD (p + 2) 0 = op / 256 := by
    have := drop_at zs p 2
    rw [h, putL_4] at this
    simp only [List.cons_append, List.getD_cons_succ, List.getD_cons_zero] at this
    omega
  have e3 : zs.getD (p + 3) 0 = op % 256 := by
    have := drop_at zs p 3
    rw [h, putL_4] at this
    simp only [List.cons_append, List.getD_cons_succ, List.getD_cons_zero] at this
    omega
  unfold numO
  rw [if_neg (by omega), e0]
  have hf : formR 192 = (4, 3221225472) := by unfold formR; rw [if_neg (by omega), if_neg (by omega)]
  rw [hf, if_neg (by simp only; omega)]
  simp only
  rw [beV_4, e0, e1, e2, e3]
  simp only [Option.some.injEq, Prod.mk.injEq, and_true]
  omega
theorem mdB_len (l : List Od) : (mdB l).length = (l.length + 1) / 2 := by simp [mdB]
theorem mdB_at (l : List Od) (j : Nat) (h : j < (l.length + 1) / 2) : (mdB l).getD j 0 = mdAt l j := by simp [mdB, List.getD_eq_getElem?_getD, h]
theorem nib_lay (zs rest : List Int) (q : Nat) (l : List Od) (h : zs.drop q = mdB l ++ rest) (hm : ∀ i, i < l.length → 0 ≤ (l.getD i (0, 0)).1 ∧ (l.getD i (0, 0)).1 ≤ 15) : nibL zs q l.length = l.map Prod.fst := by
  apply List.ext_getElem
  · simp [nibL]
  · intro i h1 h2
    have hi : i < l.length := by simpa using h2
    simp only [nibL, List.getElem_map, List.getElem_range]
    have hj : i / 2 < (l.length + 1) / 2 := by omega
    have e : zs.getD (q + i / 2) 0 = mdAt l (i / 2) := by
      rw [← drop_at, h, ← mdB_at l _ hj]
      simp only [List.getD_eq_getElem?_getD]
      rw [List.getElem?_append_left (by rw [mdB_len]; exact hj)]
    have gi : (l.getD i (0, 0)).1 = l[i].1 := by rw [List.getD_eq_getElem?_getD, List.getElem?_eq_getElem hi]; rfl
    unfold nib
    rw [e, ← gi]
    unfold mdAt
    have hb : ∀ k, 0 ≤ (l.getD k (0, 0)).1 ∧ (l.getD k (0, 0)).1 ≤ 15 := fun k => by
      by_cases hk : k < l.length
      · exact hm k hk
      · simp [List.getD_eq_getElem?_getD, List.getElem?_eq_none (by omega : l.length ≤ k)]
    have b0 := hb (2 * (i / 2))
    have b1 := hb (2 * (i / 2) + 1)
    rcases (show i % 2 = 0 ∨ i % 2 = 1 by omega) with hp | hp
    · rw [if_pos hp, show 2 * (i / 2) = i by omega] at *
      omega
    · rw [if_neg (by omega)]
      have e2 : 2 * (i / 2) + 1 = i := by omega
      rw [e2] at b1 ⊢
      omega
theorem fl_cons (p : Od) (l : List Od) : (p :: l).flatMap valB = valB p ++ l.flatMap valB := by simp
theorem args_lay (zs : List Int) : ∀ (l : List Od) (q : Nat) (suf : List Int), zs.drop q = l.flatMap valB ++ suf → q ≤ zs.length → (∀ p ∈ l, toldV p.1 (valB p) = p.2) → argsO zs (l.map Prod.fst) q = some (l, q + (l.flatMap valB).length)
  | [], q, suf, _, _, _ => rfl
  | p :: l, q, suf, h, hq, ht => by
    rw [List.map_cons, argsO_cons]
    have hvl := valB_len p
    rw [fl_cons, List.append_assoc] at h
    have hl : zs.length - q = (valB p).length + (l.flatMap valB ++ suf).length := by have := congrArg List.length h; rw [List.length_drop, List.length_append] at this; exact this
    rw [if_neg (by omega)]
    have hseg : seg zs q (widN p.1) = valB p := by unfold seg; rw [h, ← hvl, List.take_left]
    have hd : zs.drop (q + widN p.1) = l.flatMap valB ++ suf := by rw [← List.drop_drop, h, ← hvl, List.drop_left]
    rw [args_lay zs l _ suf hd (by omega) (fun x hx => ht x (by simp [hx])), hseg, ht p (by simp)]
    simp only [Option.some.injEq, Prod.mk.injEq, true_and]
    rw [fl_cons, List.length_append, hvl]; omega
theorem args_cut (zs : List Int) : ∀ (l : List Od) (q c : Nat), zs.drop q = (l.flatMap valB).take c → c < (l.flatMap valB).length → q ≤ zs.length → argsO zs (l.map Prod.fst) q = none
  | [], q, c, _, hc, _ => by simp at hc
  | p :: l, q, c, h, hc, hq => by
    rw [List.map_cons, argsO_cons]
    have hvl := valB_len p
    rw [fl_cons] at h hc
    rw [List.length_append] at hc
    have hl : zs.length - q = c := by have := congrArg List.length h; rw [List.length_drop, List.length_take, List.length_append] at this; omega
    by_cases hs : zs.length < q + widN p.1
    · rw [if_pos hs]
    · rw [if_neg hs]
      have hd : zs.drop (q + widN p.1) = (l.flatMap valB).take (c - widN p.1) := by
        rw [← List.drop_drop, h, List.drop_take, ← hvl, List.drop_left]
      rw [args_cut zs l _ _ hd (by omega) (by omega)]
theorem ok_parts {ls : List UInt8} {l : List Od} (h : okAll ls l = true) : (∀ i, i < l.length → 0 ≤ (l.getD i (0, 0)).1 ∧ (l.getD i (0, 0)).1 ≤ 15) ∧ (∀ i, i < l.length → mayB ((ls.getD i 0).toNat : Int) (l.getD i (0, 0)).1 = true) ∧ ∀ p ∈ l, toldV p.1 (valB p) = p.2 := by
  unfold okAll at h
  rw [List.all_eq_true] at h
  have hi : ∀ i, i < l.length → okOd (ls.getD i 0) (l.getD i (0, 0)) = true := fun i hi => h i (by simpa using hi)
  refine ⟨fun i h1 => ?_, fun i h1 => ?_, fun p hp => ?_⟩
  · have := hi i h1
    unfold okOd mayB at this
    simp only [Bool.and_eq_true] at this
    exact okM_bd this.1.1
  · have := hi i h1
    unfold okOd at this
    simp only [Bool.and_eq_true] at this
    exact this.1
  · obtain ⟨i, h1, rfl⟩ := List.getElem_of_mem hp
    have := hi i h1
    unfold okOd at this
    simp only [Bool.and_eq_true, beq_iff_eq] at this
    have e : l.getD i (0, 0) = l[i] := by rw [List.getD_eq_getElem?_getD, List.getElem?_eq_getElem h1]; rfl
    rw [e] at this
    exact this.2
theorem may_lay {zs : List Int} {q : Nat} {ls : List UInt8} {l : List Od} (hl : l.length = ls.length) (hn : nibL zs q ls.length = l.map Prod.fst) (hm : ∀ i, i < l.length → mayB ((ls.getD i 0).toNat : Int) (l.getD i (0, 0)).1 = true) : allMay ls (nibL zs q ls.length) = true := by
  unfold allMay
  rw [List.all_eq_true]
  intro i hi
  have h1 : i < l.length := by have : i < ls.length := by simpa using hi
                               omega
  rw [hn]
  have e : (l.map Prod.fst).getD i 0 = (l.getD i (0, 0)).1 := by simp [List.getD_eq_getElem?_getD, List.getElem?_map, List.getElem?_eq_getElem h1]
  rw [e]
  exact hm i h1
/-- what lies behind a number that is read is read as it was laid -/
theorem dec_lay (zs suf : List Int) (p q : Nat) (op : Int) (r : Rw) (l : List Od) (hnum : numO zs p = some (op, q)) (hop : opR op = some r) (hl : l.length = r.2.2.length) (hok : okAll r.2.2 l = true) (hq : q ≤ zs.length) (hd : zs.drop q = mdB l ++ (l.flatMap valB ++ suf)) :
    decR zs (p : Int) = (0, op, l, ((q + (mdB l).length + (l.flatMap valB).length : Nat) : Int) - p) := by
  obtain ⟨h1, h2, h3⟩ := ok_parts hok
  have hnib := nib_lay zs _ q l hd h1
  rw [hl] at hnib
  have hmay := may_lay hl hnib h2
  have hlen : zs.length - q = (mdB l).length + (l.flatMap valB ++ suf).length := by have := congrArg List.length hd; rw [List.length_drop, List.length_append] at this; exact this
  have hml := mdB_len l
  rw [hl] at hml
  have hmd : mdsE zs r.2.2 q = 0 := by unfold mdsE; rw [if_neg (by omega), hmay]; rfl
  have hd2 : zs.drop (q + (r.2.2.length + 1) / 2) = l.flatMap valB ++ suf := by rw [← List.drop_drop, hd, ← hml, List.drop_left]
  have har := args_lay zs l (q + (r.2.2.length + 1) / 2) suf hd2 (by omega) h3
  have hR : argR zs r.2.2 q = (0, l, q + (r.2.2.length + 1) / 2 + (l.flatMap valB).length) := by
    unfold argR
    rw [if_neg (fun h => h hmd), hnib, har]
  unfold decR
  rw [if_neg (by omega), Int.toNat_natCast, hnum]
  simp only
  rw [hop]
  simp only
  rw [hR, if_pos rfl, hml]
/-- what is cut behind its number is not read -/
theorem dec_cut (zs : List Int) (p q c : Nat) (op : Int) (r : Rw) (l : List Od) (hnum : numO zs p = some (op, q)) (hop : opR op = some r) (hl : l.length = r.2.2.length) (hok : okAll r.2.2 l = true) (hq : q ≤ zs.length) (hd : zs.drop q = (mdB l ++ l.flatMap valB).take c) (hc : c < (mdB l).length + (l.flatMap valB).length) :
    decR zs (p : Int) = (90, 0, [], 0) := by
  obtain ⟨h1, h2, h3⟩ := ok_parts hok
  have hlen : zs.length - q = c := by have := congrArg List.length hd; rw [List.length_drop, List.length_take, List.length_append] at this; omega
  have hml := mdB_len l
  rw [hl] at hml
  have hE : (argR zs r.2.2 q).1 = 90 := by
    by_cases hs : c < (mdB l).length
    · have hmd : mdsE zs r.2.2 q = 90 := by unfold mdsE; rw [if_pos (by omega)]
      unfold argR
      rw [if_pos (by rw [hmd]; decide)]
      exact hmd
    · have hd1 : zs.drop q = mdB l ++ (l.flatMap valB).take (c - (mdB l).length) := by rw [hd, List.take_append, List.take_of_length_le (by omega)]
      have hnib := nib_lay zs _ q l hd1 h1
      rw [hl] at hnib
      have hmay := may_lay hl hnib h2
      have hmd : mdsE zs r.2.2 q = 0 := by unfold mdsE; rw [if_neg (by omega), hmay]; rfl
      have hd2 : zs.drop (q + (r.2.2.length + 1) / 2) = (l.flatMap valB).take (c - (mdB l).length) := by rw [← List.drop_drop, hd1, ← hml, List.drop_left]
      have har := args_cut zs l (q + (r.2.2.length + 1) / 2) _ hd2 (by omega) (by omega)
      unfold argR
      rw [if_neg (fun h => h hmd), hnib, har]
  unfold decR
  rw [if_neg (by omega), Int.toNat_natCast, hnum]
  simp only
  rw [hop]
  simp only
  rw [if_neg (by rw [hE]; decide), hE]
end Go.Proofs.Ytpkfmccnjandoaa
