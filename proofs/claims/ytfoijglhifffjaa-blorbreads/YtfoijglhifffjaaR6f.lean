/- The walk of BlorbReads: what Read answers of any bytes is what the document answers. -/
import Derived.Test.YtfoijglhifffjaaR6e
import Derived.Test.YtfoijglhifffjaaX6q
namespace Go.Proofs.Ytfoijglhifffjaa
open Go.RowKit
set_option maxHeartbeats 1000000
set_option maxRecDepth 100000
set_option linter.unusedVariables false

theorem ego_x (cs : List Sc) (d : List Int) (hd : OkB d) : ∀ (F i : Nat) (acc : List En), (∀ a ∈ acc, 0 ≤ a.2.1 ∧ a.2.1 ≤ 4294967295) → ∀ a ∈ (ego cs d F i acc).1, 0 ≤ a.2.1 ∧ a.2.1 ≤ 4294967295
  | 0, i, acc, h => by unfold ego; exact h
  | F + 1, i, acc, h => by
    unfold ego
    split
    · intro a ha; cases ha
    · split
      · intro a ha; cases ha
      · split
        · intro a ha; cases ha
        · refine ego_x cs d hd F (i + 1) _ ?_
          intro a ha
          rcases List.mem_append.1 ha with h' | h'
          · exact h a h'
          · rw [List.mem_singleton.1 h']; exact beV_bd d _ hd
theorem readR_x (zs : List Int) (hok : OkB zs) : ∀ s ∈ (readR zs).1, 0 ≤ s.2.1 ∧ s.2.1 ≤ 4294967295 := by
  unfold readR
  split
  · intro s hs; cases hs
  · intro s hs
    obtain ⟨e, he, rfl⟩ := List.mem_map.1 hs
    show 0 ≤ e.2.1 ∧ e.2.1 ≤ 4294967295
    revert he
    unfold openR
    split
    · intro he; cases he
    · rename_i hp
      split
      · intro he; cases he
      · split
        · intro he; cases he
        · intro he
          refine ego_x _ _ ?_ _ _ _ (fun a ha => by cases ha) e he
          cases hc : (parseR zs).1 with
          | nil => intro x hx; cases hx
          | cons c t =>
            obtain ⟨n, h1, -, -⟩ := parse_first zs hok c t (Classical.not_not.1 hp) hc
            show OkB c.2
            rw [h1]
            exact seg_okb hok 20 n
theorem rks_none (w : World) : Rks w none 0 0 [] := ⟨rfl, Nat.le_refl _, .inl rfl, fun r hr => by cases hr⟩
/-- two answers of one reading, as rows -/
theorem rret_rows {w : World} {zs : List Int} (hok : OkB zs) {e : Ending} {w' : World} (h : RRet w (readR zs) e w') : Below w.heap.size w w' ∧ ∃ ao cv rs n, e = .returned (.tuple #[.slice ao n cv, .int .i64 (readR zs).2.1, .int .i64 (readR zs).2.2]) ∧ Rks w' ao n cv rs ∧ rs.map srOf = (readR zs).1 ∧ n ≤ 512 := by
  obtain ⟨hb, ⟨hne, rfl⟩ | ⟨hz, ao, cv, rs, rfl, hg, hm, hd, hl⟩⟩ := h
  · refine ⟨hb, none, 0, [], 0, rfl, rks_none w', ?_, by omega⟩
    unfold readR at hne ⊢
    split
    · rfl
    · rename_i h
      rw [if_neg h] at hne
      exact absurd rfl hne
  · refine ⟨hb, ao, cv, rs, rs.length, by rw [hz], rks_own hg hd (fun r hr => ?_), hm, hl⟩
    have := readR_x zs hok (srOf r) (by rw [← hm]; exact List.mem_map_of_mem hr)
    exact this
theorem rread_reads (a : Option Addr) (L cap : Nat) (zs : List Int) (w : World) (h : Reads w a L cap zs) (hok : OkB zs) (hm : L ≤ 1000012) :
    Calls Try.prog 10 #[.slice a L cap] w (RRet w (readR zs)) := by
  by_cases h0 : L = 0
  · subst h0
    obtain rfl := List.eq_nil_of_length_eq_zero h.1
    exact rread_nil a cap w
  · rcases h.2.2 with ⟨-, h1, -⟩ | ⟨x, rfl, hc⟩
    · exact absurd h1 h0
    · obtain ⟨b, off, spot⟩ := x
      have hc0 := hc 0 (by omega)
      have hspot : spot = none := by simpa [Addr.add] using World.cell?_spot hc0
      subst hspot
      exact rread_any b off L cap zs w ⟨h.1, fun i hi => by have := hc i hi; rwa [plain_add] at this⟩ hok hm h.2.1
theorem reads_walk (a : Option Addr) (len cap : Nat) (zs : List Int) (w : World) (hr : Reads w a len cap zs) (hok : OkB zs) (hb63 : len ≤ 9223372036854775807) :
    Calls Try.prog 3 #[.slice a len cap] w fun e w' => e = .returned (.bool true) ∧ Below w.heap.size w w' := by
  have HL := hidden live_any
  have HRd := hidden hr
  have hn1 : (len : Int) ≤ 9223372036854775807 := by omega
  by_cases hbig : 65536 < len
  · have hbi : (65536 : Int) < (len : Int) := by omega
    clear hr HRd
    go_enter Try.func3, Try.ntmps3
    go_wp2_with (go_at_call 7; refine (HL.out _).mono ?_; rintro e w9 ⟨rfl, hb⟩)
    go_ret
    exact ⟨rfl, hb⟩
  have hbi : ¬ (65536 : Int) < (len : Int) := by omega
  have HLe := hidden (lent_any a len cap zs w hr (by omega))
  clear hr
  go_enter Try.func3, Try.ntmps3
  go_wp2_with fail
  refine HLe.out.mono ?_
  rintro e w1 ⟨g, c2, rfl, hc2, hg, hb1, hcell⟩
  have hzl := HRd.out.1
  have hBs : Bs w1 g 0 len zs := ⟨hzl, fun i hi => by
    have := hcell i (by omega)
    have e : (zs ++ [77]).getD i 0 = zs.getD i 0 := by simp [List.getD_eq_getElem?_getD, List.getElem?_append_left (show i < zs.length by omega)]
    rw [e] at this
    exact this⟩
  have HR1 := hidden (read_any g 0 len c2 zs w1 hBs hok (by omega) (by omega))
  have HCE := hidden hcell
  have HB1 := hidden hb1
  clear hcell hBs hb1 HLe
  go_wp2_with fail
  refine HR1.out.mono ?_
  intro e w2 hret
  obtain ⟨hb2, ao1, cv1, rs1, n1, rfl, hk1, hm1, hl1⟩ := rret_rows hok hret
  have hB2 := HB1.out.trans (hb2.mono HB1.out.size)
  have HR2 := hidden (rread_reads a len cap zs w2 (HRd.out.later hB2) hok (by omega))
  have HK1 := hidden hk1
  have HB2 := hidden hB2
  have HB12 := hidden hb2
  clear hret hk1 hB2 hb2 HR1
  generalize hRR : readR zs = R at *
  have HRR := hidden hRR
  clear hRR
  go_wp2_with fail
  refine HR2.out.mono ?_
  intro e w3 hret
  have hret' : RRet w2 (readR zs) e w3 := by rw [HRR.out]; exact hret
  obtain ⟨hb3, ao2, cv2, rs2, n2, he, hk2, hm2, hl2⟩ := rret_rows hok hret'
  rw [HRR.out] at he hm2
  subst he
  have hnn : n2 = n1 := by
    have h1 := congrArg List.length hm1
    have h2 := congrArg List.length hm2
    rw [List.length_map] at h1 h2
    have h3 := HK1.out.1
    have h4 := hk2.1
    omega
  subst hnn
  have HSm := hidden (rsame6 ao1 ao2 n2 cv1 cv2 rs1 rs2 w3 (HK1.out.later hb3) hk2 (by omega) (by rw [hm1, hm2]))
  have hB3 := HB2.out.trans (hb3.mono HB2.out.size)
  have HB3 := hidden hB3
  have HKp : Hid (∀ wx, Below w3.heap.size w3 wx → Calls Try.prog 13 #[.slice (some ⟨g, 0, none⟩) len c2, .slice a len cap] wx fun e w' => e = .returned (.bool true) ∧ w' = wx) := hidden fun wx hb => by
    have hbx := HB3.out.trans (hb.mono HB3.out.size)
    refine kept_eq g len c2 a cap zs wx hok (by omega) hc2 (fun i hi => ?_) (HRd.out.later hbx)
    exact cellLater hb (cellLater hb3 (cellLater HB12.out (HCE.out i hi)))
  have r1 : (R.2.1 == R.2.1) = true := by simp
  have r2 : (R.2.2 == R.2.2) = true := by simp
  generalize R.2.1 = E at *
  generalize R.2.2 = AT at *
  clear hret hret' hk2 HK1 HR2 hm1 hm2 HB2 HB12 HCE HB1 hB3 hb3
  go_wp2_with fail
  refine HSm.out.mono ?_
  rintro e w4 ⟨rfl, hb4⟩
  have HKq := hidden (HKp.out w4 hb4)
  have HB4 := hidden (HB3.out.trans (hb4.mono HB3.out.size))
  clear hb4 HKp HSm HB3
  go_wp2_with (first | (go_at_call 12; refine (num6 _ _).mono ?_; rintro e w9 ⟨rfl, hw⟩; obtain rfl := hw.symm) | (go_at_call 13; refine HKq.out.mono ?_; rintro e w9 ⟨rfl, hw⟩; obtain rfl := hw.symm) | (go_at_call 7; refine (HL.out _).mono ?_; rintro e w9 ⟨rfl, hb⟩))
  go_ret
  exact ⟨rfl, HB4.out.trans (hb.mono HB4.out.size)⟩
theorem blorbReads_walk (a : Option Addr) (len cap : Nat) (zs : List Int) (w : World) (h : IsRow .u8 w a len cap zs) :
    Calls Try.prog 3 #[.slice a len cap] w fun e w' => e = .returned (.bool true) ∧ Below w.heap.size w w' := by
  obtain ⟨r1, r2, r3⟩ := reads_of_row h
  exact reads_walk a len cap _ w r1 r2 r3
end Go.Proofs.Ytfoijglhifffjaa
