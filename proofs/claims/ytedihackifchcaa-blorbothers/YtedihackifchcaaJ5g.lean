/- A form's bytes, taken apart: what stands at each place (lists alone). -/
import Derived.Test.YtedihackifchcaaJ5f
namespace Go.Proofs.Ytedihackifchcaa
open Go.RowKit
set_option maxHeartbeats 1000000
set_option maxRecDepth 100000
set_option linter.unusedVariables false

theorem beV_drop (zs : List Int) (p : Nat) : beV zs p 4 = beV (zs.drop p) 0 4 := by
  unfold beV
  simp [List.getD_eq_getElem?_getD, List.getElem?_drop]
theorem beV_put (v : Int) (rest : List Int) (h0 : 0 ≤ v) (h1 : v < 4294967296) : beV (putL v 4 ++ rest) 0 4 = v := by
  unfold beV putL
  simp
  omega
theorem putL_len4 (v : Int) : (putL v 4).length = 4 := rfl
theorem seg_drop (zs : List Int) (p q n : Nat) : seg zs (p + q) n = seg (zs.drop p) q n := by
  unfold seg
  rw [List.drop_drop]
theorem getD_drop (zs : List Int) (p i : Nat) : zs.getD (p + i) 0 = (zs.drop p).getD i 0 := by
  simp [List.getD_eq_getElem?_getD, List.getElem?_drop]
theorem seg0 (a b : List Int) (n : Nat) (h : a.length = n) : seg (a ++ b) 0 n = a := by
  unfold seg
  rw [List.drop_zero, List.take_left' h]
theorem ckL_len (s : ByteArray) (l : Nat) (d : List Int) (hs : s.size = 4) (hd : d.length = l) : (ckL s l d).length = 8 + l + l % 2 := by
  unfold ckL
  simp only [List.length_append, idI_len, putL_len4, hs, hd]
  split
  · simp; omega
  · simp; omega
/-- what a chunk's bytes say, whatever stands behind them -/
theorem ck_parts (s : ByteArray) (l : Nat) (d rest : List Int) (hs : s.size = 4) (hd : d.length = l) (hl : l < 4294967296) :
    seg (ckL s l d ++ rest) 0 4 = idI s ∧ beV (ckL s l d ++ rest) 4 4 = (l : Int) ∧ seg (ckL s l d ++ rest) 8 l = d ∧ (l % 2 = 1 → (ckL s l d ++ rest).getD (8 + l) 0 = 0) := by
  have hi : (idI s).length = 4 := by rw [idI_len]; exact hs
  unfold ckL
  simp only [List.append_assoc]
  refine ⟨seg0 _ _ _ hi, ?_, ?_, fun ho => ?_⟩
  · rw [beV_drop, List.drop_left' hi]
    exact beV_put _ _ (by omega) (by omega)
  · rw [show 8 = 4 + 4 by rfl]
    unfold seg
    rw [← List.drop_drop, List.drop_left' hi, List.drop_left' (putL_len4 _)]
    exact List.take_left' hd
  · rw [show 8 + l = 4 + (4 + (l + 0)) by omega, getD_drop, List.drop_left' hi, getD_drop, List.drop_left' (putL_len4 _), getD_drop, List.drop_left' hd, if_pos ho]
    rfl
theorem headL_len (s : ByteArray) (T : Nat) (hs : s.size = 4) : (headL s T).length = 12 := by
  unfold headL
  simp only [List.length_append, idI_len, putL_len4, hs]
  rfl
theorem flat_len (cs : List Ck) (h : ∀ k ∈ cs, k.id.size = 4 ∧ k.d.length = k.l) : (flat cs).length = sizes cs := by
  induction cs with
  | nil => rfl
  | cons k cs ih =>
    have h1 := h k List.mem_cons_self
    have h2 := ih (fun k hk => h k (List.mem_cons_of_mem _ hk))
    unfold flat sizes at *
    rw [List.map_cons, List.flatten_cons, List.length_append, h2, ckL_len _ _ _ h1.1 h1.2]
    rfl
theorem flat_app (a b : List Ck) : flat (a ++ b) = flat a ++ flat b := by simp [flat]
theorem flat_cons (k : Ck) (cs : List Ck) : flat (k :: cs) = ckL k.id k.l k.d ++ flat cs := rfl
theorem form_drop (s : ByteArray) (cs : List Ck) (k : Nat) (hs : s.size = 4) (h : ∀ k ∈ cs, k.id.size = 4 ∧ k.d.length = k.l) (hk : k < cs.length) :
    (formL s cs).drop (12 + sizes (cs.take k)) = ckL cs[k].id cs[k].l cs[k].d ++ flat (cs.drop (k + 1)) := by
  have e : formL s cs = (headL s (12 + sizes cs) ++ flat (cs.take k)) ++ (ckL cs[k].id cs[k].l cs[k].d ++ flat (cs.drop (k + 1))) := by
    unfold formL
    rw [List.append_assoc]
    congr 1
    rw [← flat_cons, ← List.drop_eq_getElem_cons hk, ← flat_app, List.take_append_drop]
  rw [e]
  refine List.drop_left' ?_
  rw [List.length_append, headL_len _ _ hs, flat_len _ (fun k hk => h k (List.mem_of_mem_take hk))]
theorem form_len (s : ByteArray) (cs : List Ck) (hs : s.size = 4) (h : ∀ k ∈ cs, k.id.size = 4 ∧ k.d.length = k.l) : (formL s cs).length = 12 + sizes cs := by
  unfold formL
  rw [List.length_append, headL_len _ _ hs, flat_len cs h]
theorem form_head (s : ByteArray) (cs : List Ck) (hs : s.size = 4) (hz : sizes cs ≤ 1000000) :
    strB (seg (formL s cs) 0 4) = FORM.data.toList ∧ beV (formL s cs) 4 4 = ((12 + sizes cs : Nat) : Int) - 8 ∧ seg (formL s cs) 8 4 = idI s := by
  have hi : (idI FORM).length = 4 := rfl
  have e : formL s cs = idI FORM ++ (putL (((12 + sizes cs : Nat) : Int) - 8) 4 ++ (idI s ++ flat cs)) := by
    unfold formL headL
    simp only [List.append_assoc]
    rfl
  rw [e]
  refine ⟨?_, ?_, ?_⟩
  · rw [seg0 _ _ _ hi]; exact strB_idI FORM
  · rw [beV_drop, List.drop_left' hi]
    exact beV_put _ _ (by omega) (by omega)
  · unfold seg
    rw [show 8 = 4 + 4 by rfl, ← List.drop_drop, List.drop_left' hi, List.drop_left' (putL_len4 _)]
    exact List.take_left' (by rw [idI_len]; exact hs)
theorem form_ok (s : ByteArray) (cs : List Ck) (h : ∀ k ∈ cs, OkB k.d) : OkB (formL s cs) := by
  have hc : ∀ cs : List Ck, (∀ k ∈ cs, OkB k.d) → OkB (flat cs) := by
    intro cs
    induction cs with
    | nil => intro _ c hc; cases hc
    | cons k cs ih =>
      intro h
      rw [flat_cons]
      refine append_bd _ _ ?_ (ih fun k hk => h k (List.mem_cons_of_mem _ hk))
      unfold ckL
      refine append_bd _ _ (idI_ok _) (append_bd _ _ (putL_bd _ _) (append_bd _ _ (h k List.mem_cons_self) ?_))
      split
      · intro c hc; simp at hc; omega
      · intro c hc; cases hc
  unfold formL headL
  exact append_bd _ _ (append_bd _ _ (idI_ok _) (append_bd _ _ (putL_bd _ _) (idI_ok _))) (hc cs h)
end Go.Proofs.Ytedihackifchcaa
