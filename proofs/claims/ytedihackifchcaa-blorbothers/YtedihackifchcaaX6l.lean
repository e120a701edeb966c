/- What is laid is read as it was (lists alone). -/
import Derived.Test.YtedihackifchcaaX6k
namespace Go.Proofs.Ytedihackifchcaa
open Go.RowKit
set_option maxHeartbeats 1000000
set_option maxRecDepth 100000
set_option linter.unusedVariables false

def toCk (c : Sc) : Ck := ⟨c.1, none, c.2.length, c.2.length, c.2⟩
theorem toCk_sc (cs : List Sc) : (cs.map toCk).map scOf = cs := by
  rw [List.map_map]
  exact List.map_id'' (fun c => rfl) cs
theorem formS_L (s : ByteArray) (cs : List Sc) : formS s cs = formL s (cs.map toCk) := by
  rw [formL_S s (cs.map toCk) (fun k hk => by obtain ⟨c, _, rfl⟩ := List.mem_map.1 hk; rfl), toCk_sc]
theorem sizes_toCk (cs : List Sc) : sizes (cs.map toCk) = ssz cs := by
  rw [sizes_ssz _ (fun k hk => by obtain ⟨c, _, rfl⟩ := List.mem_map.1 hk; rfl), toCk_sc]
theorem formS_len (s : ByteArray) (cs : List Sc) (hs : s.size = 4) (h : ∀ c ∈ cs, c.1.size = 4) : (formS s cs).length = 12 + ssz cs := by
  rw [formS_L, form_len s _ hs (fun k hk => by obtain ⟨c, hc, rfl⟩ := List.mem_map.1 hk; exact ⟨h c hc, rfl⟩), sizes_toCk]
theorem formS_ok (s : ByteArray) (cs : List Sc) (h : ∀ c ∈ cs, OkB c.2) : OkB (formS s cs) := by
  rw [formS_L]
  exact form_ok s _ (fun k hk => by obtain ⟨c, hc, rfl⟩ := List.mem_map.1 hk; exact h c hc)
theorem pre_form : Lib.hasPrefix [70, 79, 82, 77] FORM.data.toList = true := by decide
theorem head_form (s : ByteArray) (cs : List Sc) (hs : IsId s) (h : ∀ c ∈ cs, c.1.size = 4) (hz : ssz cs ≤ 1000000) : headR (formS s cs) = (0, 0) := by
  have hl := formS_len s cs hs.1 h
  obtain ⟨h1, h2, h3⟩ := form_head s (cs.map toCk) hs.1 (by rw [sizes_toCk]; exact hz)
  rw [← formS_L, sizes_toCk] at *
  have hp : preB (formS s cs) = true := by
    unfold preB
    rw [hl, show min (12 + ssz cs) 4 = 4 by omega, h1]
    exact pre_form
  unfold headR
  rw [if_neg (by rw [hp]; decide), if_neg (by omega), if_neg (by rw [h2, hl]; simp), if_neg (by rw [h3, strA_idI]; exact not_not_intro hs)]
theorem chunk_form (s : ByteArray) (cs : List Sc) (hs : s.size = 4) (h : ∀ c ∈ cs, IsId c.1) (hz : ssz cs ≤ 1000000) (k : Nat) (hk : k < cs.length) :
    chunkR (formS s cs) (12 + ssz (cs.take k)) = ((cs[k].2.length : Int), 0, 0) ∧ strA (seg (formS s cs) (12 + ssz (cs.take k)) 4) = cs[k].1 ∧ seg (formS s cs) (12 + ssz (cs.take k) + 8) cs[k].2.length = cs[k].2 := by
  have h4 : ∀ c ∈ cs, c.1.size = 4 := fun c hc => (h c hc).1
  have hl := formS_len s cs hs h4
  have hall : ∀ k ∈ cs.map toCk, k.id.size = 4 ∧ k.d.length = k.l := fun k hk => by obtain ⟨c, hc, rfl⟩ := List.mem_map.1 hk; exact ⟨h4 c hc, rfl⟩
  have hkm : k < (cs.map toCk).length := by simpa using hk
  have hdr := form_drop s (cs.map toCk) k hs hall hkm
  rw [← formS_L, ← List.map_take, sizes_toCk] at hdr
  have e : (cs.map toCk)[k] = toCk cs[k] := by simp
  rw [e] at hdr
  have hsn := ssz_snoc cs k hk
  have hle : ssz (cs.take (k + 1)) ≤ ssz cs := by
    by_cases e : k + 1 = cs.length
    · rw [e, List.take_length]; exact Nat.le_refl _
    · have := ssz_lt cs (k + 1) cs.length (by omega) (Nat.le_refl _)
      rw [List.take_length] at this
      omega
  obtain ⟨q1, q2, q3, q4⟩ := ck_parts (toCk cs[k]).id (toCk cs[k]).l (toCk cs[k]).d (flat ((cs.map toCk).drop (k + 1))) (h4 _ (List.getElem_mem hk)) rfl (by show cs[k].2.length < _; omega)
  rw [← hdr] at q1 q2 q3 q4
  rw [← seg_drop, Nat.add_zero] at q1
  rw [← seg_drop] at q3
  rw [beV_drop, List.drop_drop, ← beV_drop] at q2
  rw [← getD_drop] at q4
  generalize hp : 12 + ssz (cs.take k) = p at *
  replace q1 : seg (formS s cs) p 4 = idI cs[k].1 := q1
  replace q2 : beV (formS s cs) (p + 4) 4 = (cs[k].2.length : Nat) := q2
  replace q3 : seg (formS s cs) (p + 8) cs[k].2.length = cs[k].2 := q3
  replace q4 : cs[k].2.length % 2 = 1 → (formS s cs).getD (p + (8 + cs[k].2.length)) 0 = 0 := q4
  have hidk := h _ (List.getElem_mem hk)
  generalize cs[k] = c at *
  refine ⟨?_, by rw [q1, strA_idI], q3⟩
  unfold chunkR
  rw [q2, hl, if_neg (by omega), if_neg (by rw [q1, strA_idI]; exact not_not_intro hidk), if_neg (by omega)]
  by_cases ho : ((c.2.length : Nat) : Int) % 2 = 0
  · rw [if_pos ho]
  · rw [if_neg ho, if_neg (by omega), if_neg (by rw [Int.toNat_natCast, Nat.add_assoc]; exact not_not_intro (q4 (by omega)))]
theorem pgo_form (s : ByteArray) (cs : List Sc) (hs : s.size = 4) (h : ∀ c ∈ cs, IsId c.1) (hz : ssz cs ≤ 1000000) (hn : cs.length ≤ 1024) : ∀ (F k : Nat), k ≤ cs.length → cs.length < k + F → pgo (formS s cs) F (12 + ssz (cs.take k)) (cs.take k) = (cs, 0, ((formS s cs).length : Int))
  | 0, k, hk, hF => by omega
  | F + 1, k, hk, hF => by
    have hl := formS_len s cs hs (fun c hc => (h c hc).1)
    unfold pgo
    by_cases he : k = cs.length
    · subst he
      rw [List.take_length, if_pos (by omega)]
    · have hk2 : k < cs.length := by omega
      have hlt := ssz_lt cs k cs.length hk2 (Nat.le_refl _)
      rw [List.take_length] at hlt
      obtain ⟨h1, h2, h3⟩ := chunk_form s cs hs h hz k hk2
      rw [if_neg (by omega), if_neg (by rw [List.length_take]; omega), if_neg (by rw [h1]; simp), h1]
      simp only [Int.toNat_natCast]
      rw [h2, h3, show 12 + ssz (cs.take k) + 8 + cs[k].2.length + cs[k].2.length % 2 = 12 + ssz (cs.take (k + 1)) by rw [ssz_snoc cs k hk2]; omega]
      rw [show cs.take k ++ [(cs[k].1, cs[k].2)] = cs.take (k + 1) from (List.take_succ_eq_append_getElem hk2).symm]
      exact pgo_form s cs hs h hz hn F (k + 1) (by omega) (by omega)
theorem parse_form (s : ByteArray) (cs : List Sc) (hs : IsId s) (h : ∀ c ∈ cs, IsId c.1) (hz : ssz cs ≤ 1000000) (hn : cs.length ≤ 1024) : parseR (formS s cs) = (cs, 0, ((formS s cs).length : Int)) := by
  have h4 : ∀ c ∈ cs, c.1.size = 4 := fun c hc => (h c hc).1
  have hl := formS_len s cs hs.1 h4
  unfold parseR
  rw [if_neg (by rw [head_form s cs hs h4 hz]; simp)]
  have hle : cs.length ≤ ssz cs := by
    clear hl h4 hn hz h
    induction cs with
    | nil => simp
    | cons c cs ih => unfold ssz at *; simp only [List.map_cons, List.sum_cons, List.length_cons]; omega
  have := pgo_form s cs hs.1 h hz hn ((formS s cs).length + 1) 0 (by omega) (by omega)
  simpa [ssz] using this
theorem flat_drop : ∀ (l : List (List Int)) (i : Nat) (hi : i < l.length), (∀ x ∈ l, x.length = 12) → l.flatten.drop (12 * i) = l[i] ++ (l.drop (i + 1)).flatten
  | x :: l, 0, _, h => by simp
  | x :: l, i + 1, hi, h => by
    have h1 := h x List.mem_cons_self
    rw [List.flatten_cons, show 12 * (i + 1) = x.length + 12 * i by omega, ← List.drop_drop, List.drop_left']
    · rw [flat_drop l i (by simpa using hi) (fun y hy => h y (List.mem_cons_of_mem _ hy))]
      rfl
    · rfl
/-- what an index says at an entry -/
theorem idx_parts (ss : List Sr) (pl : List Int) (h : ∀ s ∈ ss, s.1.size = 4) (hx : ∀ s ∈ ss, 0 ≤ s.2.1 ∧ s.2.1 ≤ 4294967295) (hl : pl.length = ss.length) (hp : ∀ p ∈ pl, 0 ≤ p ∧ p ≤ 4294967295) (i : Nat) (hi : i < ss.length) :
    strA (seg (idxS ss pl) (4 + 12 * i) 4) = ss[i].1 ∧ beV (idxS ss pl) (8 + 12 * i) 4 = ss[i].2.1 ∧ beV (idxS ss pl) (12 + 12 * i) 4 = pl[i]'(by omega) := by
  have hzl : (ss.zip pl).length = ss.length := by rw [List.length_zip, hl]; omega
  have hall : ∀ x ∈ (ss.zip pl).map entS, x.length = 12 := by
    intro x hx
    obtain ⟨q, hq, rfl⟩ := List.mem_map.1 hx
    unfold entS
    rw [List.length_append, List.length_append, putL_len4, putL_len4, idI_len, h _ (List.of_mem_zip hq).1]
  have hd : (idxS ss pl).drop (4 + 12 * i) = entS (ss[i], pl[i]'(by omega)) ++ (((ss.zip pl).map entS).drop (i + 1)).flatten := by
    unfold idxS
    rw [← List.drop_drop, List.drop_left' (putL_len4 _), flat_drop _ i (by simpa [hzl] using hi) hall]
    congr 1
    simp
  have hs4 : (idI ss[i].1).length = 4 := by rw [idI_len]; exact h _ (List.getElem_mem hi)
  have hxi := hx _ (List.getElem_mem hi)
  have hpi := hp _ (List.getElem_mem (show i < pl.length by omega))
  refine ⟨?_, ?_, ?_⟩
  · rw [show 4 + 12 * i = 4 + 12 * i + 0 from rfl, seg_drop, hd]
    unfold entS
    rw [List.append_assoc, seg0 _ _ _ hs4, strA_idI]
  · rw [beV_drop, show 8 + 12 * i = (4 + 12 * i) + 4 by omega, ← List.drop_drop, hd]
    unfold entS
    rw [List.append_assoc, List.drop_left' hs4, List.append_assoc]
    exact beV_put _ _ hxi.1 (Int.lt_of_le_of_lt hxi.2 (by decide))
  · rw [beV_drop, show 12 + 12 * i = (4 + 12 * i) + (4 + 4) by omega, ← List.drop_drop, hd]
    unfold entS
    rw [List.append_assoc, ← List.drop_drop, List.drop_left' hs4, List.append_assoc, List.drop_left' (putL_len4 _)]
    exact beV_put _ _ hpi.1 (Int.lt_of_le_of_lt hpi.2 (by decide))
theorem plS_congr : ∀ (a b : List Sc), a.map (fun c => c.2.length) = b.map (fun c => c.2.length) → plS a = plS b := by
  intro a b h
  have hl : a.length = b.length := by have := congrArg List.length h; simpa using this
  have hsz : ∀ i, ssz (a.take i) = ssz (b.take i) := fun i => by
    have e : ∀ c : List Sc, ssz c = ((c.map fun c => c.2.length).map fun n => 8 + n + n % 2).sum := fun c => by
      unfold ssz; rw [List.map_map]; rfl
    rw [e, e, List.map_take (l := a), List.map_take (l := b), h]
  unfold plS
  rw [hl]
  refine List.map_congr_left fun i _ => ?_
  rw [hsz]
/-- resources that may be laid -/
def LayOk (ss : List Sr) : Prop := (∀ s ∈ ss, IsId s.1 ∧ IsId s.2.2.1 ∧ 0 ≤ s.2.1 ∧ s.2.1 ≤ 4294967295 ∧ OkB s.2.2.2) ∧ ss.length ≤ 512 ∧ ss.Pairwise (fun a b => ¬ (a.1 = b.1 ∧ a.2.1 = b.2.1)) ∧ ssz (ss.map ckS) ≤ 900000
theorem lay_idx_len {ss : List Sr} (h : LayOk ss) : (idxS ss (plR ss)).length = 4 + 12 * ss.length := idxS_len ss _ (fun s hs => (h.1 s hs).1.1) (plR_len ss)
theorem plR_lay {ss : List Sr} (h : LayOk ss) : plR ss = (plS (layCs ss)).tail := by
  unfold plR layCs
  rw [plS_congr _ ((RIDX, idxS ss (plR ss)) :: ss.map ckS)]
  simp [lay_idx_len h]
theorem layCs_ids {ss : List Sr} (h : LayOk ss) : ∀ c ∈ layCs ss, IsId c.1 := fun c hc => by
  rcases List.mem_cons.1 hc with rfl | hc
  · exact id_ridx
  · obtain ⟨s, hs, rfl⟩ := List.mem_map.1 hc
    exact (h.1 s hs).2.1
theorem layCs_ssz {ss : List Sr} (h : LayOk ss) : ssz (layCs ss) = 12 + 12 * ss.length + ssz (ss.map ckS) := by
  unfold layCs ssz
  simp only [List.map_cons, List.sum_cons, lay_idx_len h]
  omega
theorem idxS_ok (ss : List Sr) (pl : List Int) : OkB (idxS ss pl) := by
  unfold idxS
  refine append_bd _ _ (putL_bd _ _) ?_
  intro c hc
  obtain ⟨l, hl, h⟩ := List.mem_flatten.1 hc
  obtain ⟨q, -, rfl⟩ := List.mem_map.1 hl
  exact append_bd _ _ (idI_ok _) (append_bd _ _ (putL_bd _ _) (putL_bd _ _)) c h
theorem layS_ok {ss : List Sr} (h : LayOk ss) : OkB (layS ss) := formS_ok _ _ (fun c hc => by
  rcases List.mem_cons.1 hc with rfl | hc
  · exact idxS_ok _ _
  · obtain ⟨s, hs, rfl⟩ := List.mem_map.1 hc
    exact (h.1 s hs).2.2.2.2)
theorem layS_len {ss : List Sr} (h : LayOk ss) : (layS ss).length = 24 + 12 * ss.length + ssz (ss.map ckS) := by
  unfold layS
  rw [formS_len IFRS _ rfl (fun c hc => (layCs_ids h c hc).1), layCs_ssz h]
  omega
theorem parse_lay {ss : List Sr} (h : LayOk ss) : parseR (layS ss) = (layCs ss, 0, ((layS ss).length : Int)) := by
  have h512 := h.2.1
  have := layCs_ssz h
  have h9 := h.2.2.2
  exact parse_form IFRS (layCs ss) id_ifrs (layCs_ids h) (by omega) (by simp [layCs]; omega)
theorem kind_lay {ss : List Sr} (h : LayOk ss) : strA (seg (layS ss) 8 4) = IFRS := by
  have h512 := h.2.1
  have := layCs_ssz h
  have h9 := h.2.2.2
  obtain ⟨-, -, h3⟩ := form_head IFRS ((layCs ss).map toCk) rfl (by rw [sizes_toCk]; omega)
  rw [← formS_L] at h3
  show strA (seg (formS IFRS (layCs ss)) 8 4) = IFRS
  rw [h3, strA_idI]
theorem plR_at {ss : List Sr} (h : LayOk ss) (i : Nat) (hi : i < ss.length) : (plR ss)[i]'(by rw [plR_len]; exact hi) = ((12 + ssz ((layCs ss).take (i + 1)) : Nat) : Int) := by
  have e := plR_lay h
  have hc : (layCs ss).length = ss.length + 1 := by simp [layCs]
  have e2 : ∀ hh, (plR ss)[i]'hh = (plS (layCs ss)).tail[i]'(by rw [← e]; exact hh) := fun hh => by simp only [e]
  rw [e2, List.getElem_tail, plS_at (layCs ss) (i + 1) (by omega)]
theorem plR_bd {ss : List Sr} (h : LayOk ss) : ∀ p ∈ plR ss, 0 ≤ p ∧ p ≤ 4294967295 := fun p hp => by
  obtain ⟨i, hi, rfl⟩ := List.getElem_of_mem hp
  rw [plR_len] at hi
  rw [plR_at h i hi]
  have hc : (layCs ss).length = ss.length + 1 := by simp [layCs]
  have h1 : ssz ((layCs ss).take (i + 1)) ≤ ssz (layCs ss) := by
    by_cases e : i + 1 = (layCs ss).length
    · rw [e, List.take_length]; exact Nat.le_refl _
    · have := ssz_lt (layCs ss) (i + 1) (layCs ss).length (by omega) (Nat.le_refl _)
      rw [List.take_length] at this
      omega
  have := layCs_ssz h
  have h9 := h.2.2.2
  have h512 := h.2.1
  omega
/-- the first i entries -/
def ents (ss : List Sr) (i : Nat) : List En := (List.range i).map fun j => ((ss.getD j (⟨#[]⟩, 0, ⟨#[]⟩, [])).1, (ss.getD j (⟨#[]⟩, 0, ⟨#[]⟩, [])).2.1, j + 1)
theorem ego_lay {ss : List Sr} (h : LayOk ss) : ∀ (F i : Nat), i + F = ss.length → ego (layCs ss) (idxS ss (plR ss)) F i (ents ss i) = (ents ss ss.length, 0, 0)
  | 0, i, hi => by
    obtain rfl : i = ss.length := by omega
    rfl
  | F + 1, i, hi => by
    have hlt : i < ss.length := by omega
    obtain ⟨p1, p2, p3⟩ := idx_parts ss (plR ss) (fun s hs => (h.1 s hs).1.1) (fun s hs => ⟨(h.1 s hs).2.2.1, (h.1 s hs).2.2.2.1⟩) (plR_len ss) (plR_bd h) i hlt
    have hsi := h.1 _ (List.getElem_mem hlt)
    have hna : ¬ Among (ents ss i) ss[i].1 ss[i].2.1 := by
      rintro ⟨a, ha, e1, e2⟩
      obtain ⟨j, hj, rfl⟩ := List.mem_map.1 ha
      have hji : j < i := List.mem_range.1 hj
      have := List.pairwise_iff_getElem.1 h.2.2.1 j i (by omega) hlt hji
      simp only [List.getD_eq_getElem?_getD, List.getElem?_eq_getElem (show j < ss.length by omega), Option.getD_some] at e1 e2
      exact this ⟨e1, e2⟩
    have hix : ixS (layCs ss) ((plR ss)[i]'(by rw [plR_len]; exact hlt)) = i + 1 := by
      rw [plR_at h i hlt]
      exact ixS_at (layCs ss) (i + 1) (by simp [layCs]; omega)
    unfold ego
    rw [p1, p2, p3, hix, if_neg (not_not_intro hsi.1), if_neg hna, if_neg (by omega)]
    have e : ents ss i ++ [(ss[i].1, ss[i].2.1, i + 1)] = ents ss (i + 1) := by
      unfold ents
      rw [List.range_succ, List.map_append]
      simp [List.getD_eq_getElem?_getD, hlt]
    rw [e]
    exact ego_lay h F (i + 1) (by omega)
theorem idx_lay {ss : List Sr} (h : LayOk ss) : beV (idxS ss (plR ss)) 0 4 = (ss.length : Nat) := by
  have h512 := h.2.1
  unfold idxS
  exact beV_put _ _ (by omega) (by omega)
theorem open_lay {ss : List Sr} (h : LayOk ss) : openR (layS ss) = (ents ss ss.length, 0, 0) := by
  have h512 := h.2.1
  have hv := idx_lay h
  have hl := lay_idx_len h
  unfold openR
  rw [parse_lay h, kind_lay h]
  have hx : idxR (layCs ss) = 0 := by
    unfold idxR layCs
    simp only
    rw [hl, hv, if_neg (by simp), if_neg (by omega), if_neg (by omega), if_neg (by omega)]
  rw [if_neg (by simp), if_neg (by simp), if_neg (by simp only; rw [hx]; simp)]
  show ego (layCs ss) (idxS ss (plR ss)) (beV (idxS ss (plR ss)) 0 4).toNat 0 [] = _
  rw [hv, Int.toNat_natCast]
  exact ego_lay h ss.length 0 (by omega)
theorem read_lay {ss : List Sr} (h : LayOk ss) : readR (layS ss) = (ss, 0, ((layS ss).length : Int)) := by
  unfold readR
  rw [open_lay h, parse_lay h, if_neg (by simp)]
  have e : (ents ss ss.length).map (resS (layCs ss)) = ss := by
    apply List.ext_getElem
    · simp [ents]
    · intro i h1 h2
      simp only [ents, List.getElem_map, List.getElem_range]
      unfold resS layCs
      simp [List.getD_eq_getElem?_getD, h2, ckS]
  rw [e]
end Go.Proofs.Ytedihackifchcaa
