/- The game that was laid is told; a container that is cut is none (lists alone). -/
import Derived.Test.YtedihackifchcaaX6l
namespace Go.Proofs.Ytedihackifchcaa
open Go.RowKit
set_option maxHeartbeats 1000000
set_option maxRecDepth 100000
set_option linter.unusedVariables false

theorem layOk_of {w : World} {a : Option Addr} {len cap : Nat} {rs : List Rk} (hr : Rks w a len cap rs) (hc : checkR rs = 0) (hsz : sizes (rs.map ckOf) ≤ 900000) : LayOk (rs.map srOf) := by
  obtain ⟨h1, h2, h3⟩ := checkR_zero rs hc
  refine ⟨fun s hs => ?_, by simpa using h2, ?_, ?_⟩
  · obtain ⟨r, hr', rfl⟩ := List.mem_map.1 hs
    have := hr.2.2.2 r hr'
    exact ⟨(h1 r hr').1, (h1 r hr').2, this.2.2.1, this.2.2.2, this.2.1⟩
  · rw [List.pairwise_map]; exact h3
  · have : (rs.map srOf).map ckS = (rs.map ckOf).map scOf := by rw [List.map_map, List.map_map]; rfl
    rw [this, ← sizes_ssz _ (fun k hk => by obtain ⟨r, hr', rfl⟩ := List.mem_map.1 hk; exact (hr.2.2.2 r hr').1.1)]
    exact hsz
theorem headR_ok (zs : List Int) (h : (headR zs).1 = 0) : 12 ≤ zs.length ∧ beV zs 4 4 = (zs.length : Int) - 8 := by
  refine ⟨headR_long zs h, ?_⟩
  unfold headR at h
  by_cases c1 : preB zs = false
  · rw [if_pos c1] at h; exact absurd h (by simp)
  rw [if_neg c1] at h
  by_cases c2 : zs.length < 12
  · rw [if_pos c2] at h; exact absurd h (by simp)
  rw [if_neg c2] at h
  by_cases c3 : beV zs 4 4 ≠ (zs.length : Int) - 8
  · rw [if_pos c3] at h; exact absurd h (by simp)
  exact Classical.not_not.1 c3
theorem lay_head {ss : List Sr} (h : LayOk ss) : strB (seg (layS ss) 0 4) = FORM.data.toList ∧ beV (layS ss) 4 4 = ((layS ss).length : Int) - 8 := by
  have h512 := h.2.1
  have h1 := layCs_ssz h
  have h9 := h.2.2.2
  have hl := layS_len h
  obtain ⟨e1, e2, -⟩ := form_head IFRS ((layCs ss).map toCk) rfl (by rw [sizes_toCk]; omega)
  rw [← formS_L] at e1 e2
  refine ⟨e1, ?_⟩
  show beV (formS IFRS (layCs ss)) 4 4 = _
  rw [e2, sizes_toCk, hl, h1]
  omega
theorem seg_take (zs : List Int) (cut p n : Nat) (h : p + n ≤ cut) : seg (zs.take cut) p n = seg zs p n := by
  unfold seg
  rw [List.drop_take, List.take_take]
  congr 1
  omega
theorem beV_take (zs : List Int) (cut p : Nat) (h : p + 4 ≤ cut) : beV (zs.take cut) p 4 = beV zs p 4 := by
  have hg : ∀ i, i < cut → (zs.take cut).getD i 0 = zs.getD i 0 := fun i hi => by simp [List.getD_eq_getElem?_getD, hi]
  unfold beV
  rw [hg p (by omega), hg (p + 1) (by omega), hg (p + 2) (by omega), hg (p + 3) (by omega)]
/-- a container that is cut: Read's answer, and Game's -/
theorem cut_lay {ss : List Sr} (h : LayOk ss) (cut : Nat) (hc : cut < (layS ss).length) :
    (readR ((layS ss).take cut)).1 = [] ∧ (readR ((layS ss).take cut)).2.1 ≠ 0 ∧ (gameR ((layS ss).take cut)).2.1 ≠ 0 ∧ (cut < 4 → (gameR ((layS ss).take cut)).2.1 = 63) ∧ (4 ≤ cut → (readR ((layS ss).take cut)).2.1 = (gameR ((layS ss).take cut)).2.1) := by
  obtain ⟨e1, e2⟩ := lay_head h
  have hl : ((layS ss).take cut).length = cut := by rw [List.length_take]; omega
  have hh : (headR ((layS ss).take cut)).1 ≠ 0 := fun h0 => by
    obtain ⟨k1, k2⟩ := headR_ok _ h0
    rw [hl] at k1 k2
    rw [beV_take _ _ _ (by omega), e2] at k2
    omega
  have hp : parseR ((layS ss).take cut) = ([], (headR ((layS ss).take cut)).1, (headR ((layS ss).take cut)).2) := by unfold parseR; rw [if_pos hh]
  have ho : openR ((layS ss).take cut) = ([], (headR ((layS ss).take cut)).1, (headR ((layS ss).take cut)).2) := by unfold openR; rw [hp, if_pos hh]
  have hr : readR ((layS ss).take cut) = ([], (headR ((layS ss).take cut)).1, (headR ((layS ss).take cut)).2) := by unfold readR; rw [ho, if_pos hh]
  have hw : withinR ((layS ss).take cut) = ([], (headR ((layS ss).take cut)).1, (headR ((layS ss).take cut)).2) := by unfold withinR; rw [ho, if_pos hh]
  rw [hr]
  by_cases h4 : cut < 4
  · have hg : gameR ((layS ss).take cut) = ([], 63, 0) := by
      have hsz : ∀ B : ByteArray, B.size = 4 → strA (seg ((layS ss).take cut) 0 (min ((layS ss).take cut).length 4)) ≠ B := fun B hB e => by
        have : (strA (seg ((layS ss).take cut) 0 (min ((layS ss).take cut).length 4))).size = cut := by
          show (strB _).toArray.size = cut
          simp [strB, seg, hl]
          omega
        rw [e, hB] at this
        omega
      unfold gameR
      rw [if_neg (hsz GlulB rfl), if_neg (hsz FORMB rfl)]
    rw [hg]
    exact ⟨rfl, hh, by simp, fun _ => rfl, fun h => absurd h4 (by omega)⟩
  · have hs : strA (seg ((layS ss).take cut) 0 (min ((layS ss).take cut).length 4)) = FORMB := by
      rw [hl, show min cut 4 = 4 by omega, seg_take _ _ _ _ (by omega)]
      unfold strA
      rw [e1]
      rfl
    have hg : gameR ((layS ss).take cut) = ([], (headR ((layS ss).take cut)).1, (headR ((layS ss).take cut)).2) := by
      unfold gameR
      rw [hs, if_neg (by decide), if_pos rfl, hw]
    rw [hg]
    exact ⟨rfl, hh, hh, fun h => absurd h h4, fun _ => rfl⟩
/-- the game that was laid is told -/
theorem game_lay {ss : List Sr} (h : LayOk ss) (i : Nat) (hi : i < ss.length) (g : List Int) (hg : ss[i] = (EXEC, 0, GLUL, g)) : gameR (layS ss) = (g, 0, ((layS ss).length : Int)) := by
  obtain ⟨e1, e2⟩ := lay_head h
  have hl := layS_len h
  have hs : strA (seg (layS ss) 0 (min (layS ss).length 4)) = FORMB := by
    rw [show min (layS ss).length 4 = 4 by omega]
    unfold strA
    rw [e1]
    rfl
  unfold gameR
  rw [hs, if_neg (by decide), if_pos rfl]
  unfold withinR
  rw [open_lay h, parse_lay h, if_neg (by simp)]
  have hmem : (EXEC, (0 : Int), i + 1) ∈ ents ss ss.length := by
    refine List.mem_map.2 ⟨i, List.mem_range.2 hi, ?_⟩
    simp [List.getD_eq_getElem?_getD, hi, hg]
  cases hf : (ents ss ss.length).find? isGame with
  | none =>
    have := List.find?_eq_none.1 hf _ hmem
    exact absurd (by unfold isGame; simp) this
  | some a =>
    have hp : isGame a = true := List.find?_some hf
    have ha : a ∈ ents ss ss.length := List.mem_of_find?_eq_some hf
    unfold isGame at hp
    have hp2 : a.1 = EXEC ∧ a.2.1 = 0 := by simpa using hp
    obtain ⟨j, hj, rfl⟩ := List.mem_map.1 ha
    have hjl : j < ss.length := List.mem_range.1 hj
    simp only [List.getD_eq_getElem?_getD, List.getElem?_eq_getElem hjl, Option.getD_some] at hp2
    have hji : j = i := by
      apply Classical.byContradiction
      intro hne
      rcases Nat.lt_or_gt_of_ne hne with hlt | hgt
      · exact List.pairwise_iff_getElem.1 h.2.2.1 j i hjl hi hlt (by rw [hg]; exact hp2)
      · exact List.pairwise_iff_getElem.1 h.2.2.1 i j hi hjl hgt (by rw [hg]; exact ⟨hp2.1.symm, hp2.2.symm⟩)
    subst hji
    have hres : resS (layCs ss) ((ss.getD j (⟨#[]⟩, 0, ⟨#[]⟩, [])).1, (ss.getD j (⟨#[]⟩, 0, ⟨#[]⟩, [])).2.1, j + 1) = (EXEC, 0, GLUL, g) := by
      unfold resS layCs
      simp [List.getD_eq_getElem?_getD, hi, hg, ckS]
    show (if (resS (layCs ss) _).2.2.1 ≠ GLUL then ([], 62, 12) else ((resS (layCs ss) _).2.2.2, 0, ((layS ss).length : Int))) = _
    rw [hres, if_neg (by simp)]
/-- bytes that begin as a game does are the game -/
theorem game_raw (g : List Int) : gameR ([71, 108, 117, 108] ++ g) = ([71, 108, 117, 108] ++ g, 0, (([71, 108, 117, 108] ++ g).length : Int)) := by
  unfold gameR
  rw [if_pos]
  have : min ([71, 108, 117, 108] ++ g : List Int).length 4 = 4 := by simp
  rw [this, show seg ([71, 108, 117, 108] ++ g) 0 4 = [71, 108, 117, 108] from seg0 _ _ _ rfl]
  rfl
end Go.Proofs.Ytedihackifchcaa
