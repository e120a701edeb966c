/- Contracts of blorb.open and blorb.Read for any bytes: the container's resources, in memory of the call's own, or the first fault and its place. -/
import Derived.Test.YtedihackifchcaaX6e
namespace Go.Proofs.Ytedihackifchcaa
open Go.RowKit Go.Maps
set_option maxHeartbeats 1000000
set_option maxRecDepth 100000
set_option linter.unusedVariables false

abbrev IFRS : ByteArray := ⟨#[73, 70, 82, 83]⟩
/-- what is in a container: its entries; or its first fault, and that one's place -/
def openR (zs : List Int) : List En × Int × Int :=
  if (parseR zs).2.1 ≠ 0 then ([], (parseR zs).2.1, (parseR zs).2.2) else if strA (seg zs 8 4) ≠ IFRS then ([], 60, 8) else if idxR (parseR zs).1 ≠ 0 then ([], idxR (parseR zs).1, 12)
  else ego (parseR zs).1 ((parseR zs).1.headD (⟨#[]⟩, [])).2 (beV ((parseR zs).1.headD (⟨#[]⟩, [])).2 0 4).toNat 0 []
theorem idxR_ok (c : Sc) (cs : List Sc) (hok : OkB c.2) (h : idxR (c :: cs) = 0) : ∃ N : Nat, N ≤ 512 ∧ c.2.length = 4 + 12 * N ∧ beV c.2 0 4 = N ∧ c.1 = ⟨#[82, 73, 100, 120]⟩ := by
  have hv := beV_bd c.2 0 hok
  obtain ⟨n, hn⟩ := Int.eq_ofNat_of_zero_le hv.1
  unfold idxR at h
  simp only at h
  rw [hn] at h
  by_cases c1 : c.1 ≠ ⟨#[82, 73, 100, 120]⟩
  · rw [if_pos c1] at h; exact absurd h (by simp)
  rw [if_neg c1] at h
  by_cases c2 : c.2.length < 4
  · rw [if_pos c2] at h; exact absurd h (by simp)
  rw [if_neg c2] at h
  by_cases c3 : (c.2.length : Int) ≠ 4 + 12 * (n : Int)
  · rw [if_pos c3] at h; exact absurd h (by simp)
  rw [if_neg c3] at h
  by_cases c4 : 512 < (n : Int)
  · rw [if_pos c4] at h; exact absurd h (by simp)
  exact ⟨n, by omega, by omega, hn, Classical.not_not.1 c1⟩
/-- what open answers -/
def ORet (w : World) (cs : List Sc) (R : List En × Int × Int) (e : Ending) (w' : World) : Prop :=
  Below w.heap.size w w' ∧ ((R.2.1 ≠ 0 ∧ e = .returned (.tuple #[.agg #[.slice none 0 0, .slice none 0 0, .map none], .int .i64 R.2.1, .int .i64 R.2.2])) ∨
   (R.2.1 = 0 ∧ ∃ ao cv ks an cn bm D, e = .returned (.tuple #[.agg #[.slice ao ks.length cv, .slice an R.1.length cn, .map (some bm)], .int .i64 0, .int .i64 0]) ∧ Gks w' ao ks.length cv ks ∧ ks.map scOf = cs ∧ (∀ k ∈ ks, k.d.length = k.l ∧ OkB k.d ∧ k.id.size = 4 ∧ k.l ≤ 1000012) ∧ ks.length ≤ 1024 ∧
     w'.ownsRow w.heap.size 88 2 (.slice an R.1.length cn) R.1.length (nmsV R.1) ∧ w'.ownsMap (H := Unit) Try.prog 88 (plainElem Try.prog 3) bm R.1.length D ∧ MapIs D R.1 ∧ EnOk R.1 ∧ (∀ a ∈ R.1, a.2.2 ≠ 0 ∧ a.2.2 < ks.length) ∧ R.1.length ≤ 512 ∧
     (∀ k ∈ ks, w'.ownsRow w.heap.size 5 1 (.slice k.a k.l k.c) k.l (bytesV k.d))))
theorem ego_len (cs : List Sc) (d : List Int) : ∀ (F i : Nat) (acc : List En), (ego cs d F i acc).1.length ≤ acc.length + F
  | 0, i, acc => by simp [ego]
  | F + 1, i, acc => by
    unfold ego
    split
    · simp
    · split
      · simp
      · split
        · simp
        · have := ego_len cs d F (i + 1) (acc ++ [(strA (seg d (4 + 12 * i) 4), beV d (8 + 12 * i) 4, ixS cs (beV d (12 + 12 * i) 4))])
          rw [List.length_append] at this
          simp at this
          omega
/-- the chunks of what was read fit into it -/
theorem pgo_sz (zs : List Int) (hok : OkB zs) : ∀ (F p : Nat) (acc : List Sc), p = 12 + ssz acc → p ≤ zs.length → 12 + ssz (pgo zs F p acc).1 ≤ max zs.length 12
  | 0, p, acc, hp, hl => by unfold pgo; show 12 + ssz acc ≤ _; omega
  | F + 1, p, acc, hp, hl => by
    unfold pgo
    split
    · show 12 + ssz acc ≤ _; omega
    · split
      · simp [ssz]; omega
      · split
        · simp [ssz]; omega
        · rename_i h1 h2 h3
          obtain ⟨n, hce, hfit, hbe, hid⟩ := chunkR_ok zs p hok (Classical.not_not.1 h3)
          rw [hce]
          simp only [Int.toNat_natCast]
          refine pgo_sz zs hok F _ _ ?_ (by omega)
          have hdl : (seg zs (p + 8) n).length = n := seg_len zs (p + 8) n (by omega)
          unfold ssz at hp ⊢
          rw [List.map_append, List.sum_append_nat]
          simp [hdl]
          omega
theorem parseR_sz (zs : List Int) (hok : OkB zs) : ssz (parseR zs).1 ≤ zs.length := by
  unfold parseR
  split
  · simp [ssz]
  · rename_i h
    have h12 := headR_long zs (Classical.not_not.1 h)
    have := pgo_sz zs hok (zs.length + 1) 12 [] (by simp [ssz]) h12
    omega
theorem sizes_mem {ks : List Ck} {k : Ck} (h : k ∈ ks) : k.l ≤ sizes ks := by
  induction ks with
  | nil => cases h
  | cons c ks ih =>
    unfold sizes at *
    simp only [List.map_cons, List.sum_cons]
    rcases List.mem_cons.1 h with rfl | h
    · unfold ckSize; omega
    · have := ih h; omega
theorem set_below {w w1 : World} (h : Below w.heap.size w w1) (x y z : Value) : Below w.heap.size w (((w1.setCell ⟨w.heap.size, 0, none⟩ x).setCell ⟨w.heap.size, 1, none⟩ y).setCell ⟨w.heap.size, 2, none⟩ z) :=
  ((h.setCell (Nat.le_refl _) _).setCell (Nat.le_refl _) _).setCell (Nat.le_refl _) _
theorem Got.set {B : Nat} {w : World} {v : Value} {ks : List Ck} (h : Got B w v ks) {a : Addr} (ha : a.block < B) (u : Value) : Got B (w.setCell a u) v ks :=
  ⟨ownsRow_setCell_below h.1 ha u, fun k hk => ownsRow_setCell_below (h.2 k hk) ha u⟩
theorem open_any (g o L cap : Nat) (zs : List Int) (w : World) (h : Bs w g o L zs) (hok : OkB zs) (hm : L ≤ 1000012) (hcap : L ≤ cap) :
    Calls Try.prog 46 #[.slice (some ⟨g, o, none⟩) L cap] w (ORet w (parseR zs).1 (openR zs)) := by
  have hlen := h.1
  have hbz : Below w.heap.size w (w.alloc (.cells #[.slice none 0 0, .slice none 0 0, .map none] 84)) := (Below.refl _ _).alloc (Nat.le_refl _) _
  have HBZ := hidden hbz
  have HP := hidden (parse_any g o L cap zs (w.alloc (.cells #[.slice none 0 0, .slice none 0 0, .map none] 84)) (h.later hbz) hok hm hcap)
  have hB0 := Box3.new w (.slice none 0 0) (.slice none 0 0) (.map none) 84
  have HB0 := hidden hB0
  have hsz := parseR_sz zs hok
  obtain ⟨R, hR⟩ : ∃ R, R = openR zs := ⟨_, rfl⟩
  rw [← hR]
  unfold openR at hR
  have HR := hidden hR
  clear h hR hbz hB0
  generalize parseR zs = P at *
  generalize strA (seg zs 8 4) = S8 at *
  go_enter Try.func46, Try.ntmps46
  go_wp2_with fail
  refine HP.out.mono ?_
  rintro e w1 ⟨hb1, ⟨hne, rfl⟩ | ⟨hz, hz2, ao, cv, ks, rfl, hgot, hks, hall, hk1024⟩⟩
  · rw [if_pos hne] at HR
    obtain rfl := HR.out
    have hne2 : (P.2.1 != 0) = true := by simpa using hne
    have hB1 := HB0.out.later hb1
    obtain ⟨q0, q1, q2, q3, q4, q5⟩ := hB1.cells
    have hw1 := HBZ.out.trans (hb1.mono (by simp))
    generalize P.2.1 = E at *
    generalize P.2.2 = A at *
    clear HR HP HB0 HBZ hb1
    go_wp2
    have hB2 := hB1.setAll (.slice none 0 0) (.slice none 0 0) (.map none)
    have hw2 := set_below hw1 (.slice none 0 0) (.slice none 0 0) (.map none)
    obtain ⟨r0, r1, r2, -⟩ := hB2.cells
    generalize ((w1.setCell ⟨w.heap.size, 0, none⟩ (.slice none 0 0)).setCell ⟨w.heap.size, 1, none⟩ (.slice none 0 0)).setCell ⟨w.heap.size, 2, none⟩ (.map none) = WZ at *
    refine bodyPost_ret (v := .tuple #[.agg #[.slice none 0 0, .slice none 0 0, .map none], .int .i64 E, .int .i64 A]) (by simp [results, Try.results46, go_sem, r0, r1, r2]) rfl ?_
    exact ⟨hw2, .inl ⟨hne, rfl⟩⟩
  rw [if_neg (not_not_intro hz)] at HR
  have hB1 := HB0.out.later hb1
  have HB1 := hidden hB1
  have hw1 := HBZ.out.trans (hb1.mono (by simp))
  have HW1 := hidden hw1
  have hbase : (w.alloc (.cells #[.slice none 0 0, .slice none 0 0, .map none] 84)).heap.size = w.heap.size + 1 := by simp
  rw [hbase] at hgot
  have HG := hidden hgot
  have hs1 := hB1.lt
  have HALL := hidden hall
  have hsz2 : sizes ks ≤ 1000012 := by
    rw [sizes_ssz ks (fun k hk => (hall k hk).1), hks]; omega
  clear hb1 HP HB0 HBZ hall hbase
  by_cases hkd : S8 ≠ IFRS
  · rw [if_pos hkd] at HR
    obtain rfl := HR.out
    have hkd2 := strlit_f [73, 70, 82, 83] hkd
    obtain ⟨q0, q1, q2, q3, q4, q5⟩ := hB1.cells
    clear HR HG hkd
    go_wp2
    have hB2 := HB1.out.setAll (.slice none 0 0) (.slice none 0 0) (.map none)
    have hw2 := set_below hw1 (.slice none 0 0) (.slice none 0 0) (.map none)
    obtain ⟨r0, r1, r2, -⟩ := hB2.cells
    generalize ((w1.setCell ⟨w.heap.size, 0, none⟩ (.slice none 0 0)).setCell ⟨w.heap.size, 1, none⟩ (.slice none 0 0)).setCell ⟨w.heap.size, 2, none⟩ (.map none) = WZ at *
    refine bodyPost_ret (v := .tuple #[.agg #[.slice none 0 0, .slice none 0 0, .map none], .int .i64 60, .int .i64 8]) (by simp [results, Try.results46, go_sem, r0, r1, r2]) rfl ?_
    exact ⟨hw2, .inl ⟨by simp, rfl⟩⟩
  rw [if_neg hkd] at HR
  have hkd2 : S8 = IFRS := Classical.not_not.1 hkd
  subst hkd2
  have hCI : Calls Try.prog 57 #[.slice ao ks.length cv] w1 fun e w' => e = .returned (.int .i64 (idxR P.1)) ∧ w' = w1 := by
    rw [← hks]
    cases ks with
    | nil => exact checkIndex_none ao cv w1
    | cons k ks =>
      have := sizes_mem (ks := k :: ks) (k := k) List.mem_cons_self
      exact checkIndex_some ao (k :: ks).length cv k ks w1 (got_gks hgot rfl (fun c hc => (HALL.out c hc).2.1)) (HALL.out k List.mem_cons_self).1 (HALL.out k List.mem_cons_self).2.1 (by omega)
  have HCI := hidden hCI
  clear hkd hCI
  by_cases hix : idxR P.1 ≠ 0
  · rw [if_pos hix] at HR
    obtain rfl := HR.out
    have hix2 : (idxR P.1 != 0) = true := by simpa using hix
    generalize idxR P.1 = E at *
    obtain ⟨q0, q1, q2, q3, q4, q5⟩ := hB1.cells
    clear HR HG
    go_wp2_with (go_at_call 57; refine HCI.out.mono ?_; rintro e w9 ⟨rfl, hw⟩; obtain rfl := hw.symm)
    have hB2 := HB1.out.setAll (.slice none 0 0) (.slice none 0 0) (.map none)
    have hw2 := set_below hw1 (.slice none 0 0) (.slice none 0 0) (.map none)
    obtain ⟨r0, r1, r2, -⟩ := hB2.cells
    generalize ((w1.setCell ⟨w.heap.size, 0, none⟩ (.slice none 0 0)).setCell ⟨w.heap.size, 1, none⟩ (.slice none 0 0)).setCell ⟨w.heap.size, 2, none⟩ (.map none) = WZ at *
    refine bodyPost_ret (v := .tuple #[.agg #[.slice none 0 0, .slice none 0 0, .map none], .int .i64 E, .int .i64 12]) (by simp [results, Try.results46, go_sem, r0, r1, r2]) rfl ?_
    exact ⟨hw2, .inl ⟨hix, rfl⟩⟩
  rw [if_neg hix] at HR
  have hix0 : idxR P.1 = 0 := Classical.not_not.1 hix
  rw [hix0] at HCI
  have hRE : Calls Try.prog 58 #[.slice ao ks.length cv] w1 (REnt w1 ao ks.length cv R) ∧ R.1.length ≤ 512 := by
    rw [HR.out, ← hks]
    rw [← hks] at hix0
    cases ks with
    | nil => exact absurd hix0 (by simp [idxR])
    | cons k ks =>
      obtain ⟨N, hN, hl, hv, -⟩ := idxR_ok (scOf k) (ks.map scOf) (HALL.out k List.mem_cons_self).2.1 hix0
      have hkl := (HALL.out k List.mem_cons_self).1
      have hv' : beV (List.headD ((k :: ks).map scOf) (⟨#[]⟩, [])).2 0 4 = N := hv
      rw [hv', Int.toNat_natCast]
      refine ⟨readEntries_any ao (k :: ks).length cv N k ks w1 (got_gks hgot rfl (fun c hc => (HALL.out c hc).2.1)) (fun c hc => (HALL.out c hc).1) (HALL.out k List.mem_cons_self).2.1 hsz2 hk1024 hN ?_, ?_⟩
      · rw [← hkl]; exact hl
      · have := ego_len ((k :: ks).map scOf) (List.headD ((k :: ks).map scOf) (⟨#[]⟩, [])).2 N 0 []
        simp only [List.length_nil, Nat.zero_add] at this
        exact Nat.le_trans this hN
  have HRE := hidden hRE.1
  have hR512 := hRE.2
  clear hRE hix hix0 hgot HR
  go_wp2_with (go_at_call 57; refine HCI.out.mono ?_; rintro e w9 ⟨rfl, hw⟩; obtain rfl := hw.symm)
  refine HRE.out.mono ?_
  rintro e w2 ⟨hb2, ⟨hne, rfl⟩ | ⟨hz0, an, cn, bm, D, rfl, hbm, hon, hom, hmi, heo, hlt⟩⟩
  · have hB2' := HB1.out.later hb2
    have hw1' := HW1.out.trans (hb2.mono HW1.out.size)
    obtain ⟨q0, q1, q2, q3, q4, q5⟩ := hB2'.cells
    clear HRE HG hb2
    go_wp2
    have hB2 := hB2'.setAll (.slice none 0 0) (.slice none 0 0) (.map none)
    have hw2 := set_below hw1' (.slice none 0 0) (.slice none 0 0) (.map none)
    obtain ⟨r0, r1, r2, -⟩ := hB2.cells
    generalize ((w2.setCell ⟨w.heap.size, 0, none⟩ (.slice none 0 0)).setCell ⟨w.heap.size, 1, none⟩ (.slice none 0 0)).setCell ⟨w.heap.size, 2, none⟩ (.map none) = WZ at *
    refine bodyPost_ret (v := .tuple #[.agg #[.slice none 0 0, .slice none 0 0, .map none], .int .i64 R.2.1, .int .i64 R.2.2]) (by simp [results, Try.results46, go_sem, r0, r1, r2]) rfl ?_
    exact ⟨hw2, .inl ⟨hne, rfl⟩⟩
  · have hB2' := HB1.out.later hb2
    have hw1' := HW1.out.trans (hb2.mono HW1.out.size)
    obtain ⟨q0, q1, q2, q3, q4, q5⟩ := hB2'.cells
    have HG2 := hidden (HG.out.below hb2)
    have HON := hidden hon
    have HOM := hidden hom
    have HMI := hidden hmi
    have HEO := hidden heo
    have HLT := hidden hlt
    clear HRE HG hb2 hon hom hmi heo hlt
    generalize hkl : ks.length = kn at *
    generalize hrl : R.1.length = rn at *
    go_wp2
    have hB2 := hB2'.setAll (.slice ao kn cv) (.slice an rn cn) (.map (some bm))
    have hw2 := set_below hw1' (.slice ao kn cv) (.slice an rn cn) (.map (some bm))
    have hG3 := ((HG2.out.set (a := ⟨w.heap.size, 0, none⟩) (Nat.lt_succ_self _) (.slice ao kn cv)).set (a := ⟨w.heap.size, 1, none⟩) (Nat.lt_succ_self _) (.slice an rn cn)).set (a := ⟨w.heap.size, 2, none⟩) (Nat.lt_succ_self _) (.map (some bm))
    have hO3 := ownsRow_setCell_below (ownsRow_setCell_below (ownsRow_setCell_below HON.out (a := ⟨w.heap.size, 0, none⟩) hs1 (.slice ao kn cv)) (a := ⟨w.heap.size, 1, none⟩) hs1 (.slice an rn cn)) (a := ⟨w.heap.size, 2, none⟩) hs1 (.map (some bm))
    have hM3 := ((HOM.out.setCell (a := ⟨w.heap.size, 0, none⟩) (show bm ≠ w.heap.size by omega) (.slice ao kn cv)).setCell (a := ⟨w.heap.size, 1, none⟩) (show bm ≠ w.heap.size by omega) (.slice an rn cn)).setCell (a := ⟨w.heap.size, 2, none⟩) (show bm ≠ w.heap.size by omega) (.map (some bm))
    obtain ⟨r0, r1, r2, -⟩ := hB2.cells
    generalize ((w2.setCell ⟨w.heap.size, 0, none⟩ (.slice ao kn cv)).setCell ⟨w.heap.size, 1, none⟩ (.slice an rn cn)).setCell ⟨w.heap.size, 2, none⟩ (.map (some bm)) = WZ at *
    refine bodyPost_ret (v := .tuple #[.agg #[.slice ao kn cv, .slice an rn cn, .map (some bm)], .int .i64 0, .int .i64 0]) (by simp [results, Try.results46, go_sem, r0, r1, r2]) rfl ?_
    refine ⟨hw2, .inr ⟨hz0, ao, cv, ks, an, cn, bm, D, by rw [hkl, hrl], by rw [hkl]; exact got_gks hG3 hkl (fun c hc => (HALL.out c hc).2.1), hks, fun k hk => ?_, by omega, by rw [hrl]; exact own_base hO3 (Nat.le_of_lt hs1), by rw [hrl]; exact hM3, HMI.out, HEO.out, by rw [hkl]; exact HLT.out, by omega, fun k hk => own_base (hG3.2 k hk) (Nat.le_succ _)⟩⟩
    obtain ⟨a1, a2, a3⟩ := HALL.out k hk
    exact ⟨a1, a2, a3, Nat.le_trans (sizes_mem hk) hsz2⟩
end Go.Proofs.Ytedihackifchcaa
