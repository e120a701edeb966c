/- The walk of HeapBack. -/
import Derived.Test.YtfkplfaikicidaaE8v
namespace Go.Proofs.Ytfkplfaikicidaa
open Go.RowKit
set_option maxHeartbeats 1000000
set_option maxRecDepth 100000
set_option linter.unusedVariables false

/-- what an act makes of a heap (HeapBack, HeapLoads) -/
def actB (s : Hs) (r : Ac) : Hs := if r.k = 0 then mallocS s r.n r.e else if r.k = 1 then freeS s r.a else s
theorem ok_actB {s : Hs} (r : Ac) (ok : OkS s) : OkS (actB s r) := by
  unfold actB
  split
  · exact ok_malloc _ _ ok
  · split
    · exact ok_free _ ok
    · exact ok
theorem most_actB (s : Hs) (r : Ac) : (actB s r).most = s.most := by
  unfold actB
  split
  · exact most_malloc _ _ _
  · split
    · exact most_free _ _
    · rfl
theorem back_huge (m n : Nat) (ao : Option Addr) (len cap : Nat) (rs : List Ac) (w : World) (ha : IsActs w ao len cap rs) (hh : hugeB rs = true) :
    Calls Try.prog 5 #[.int .u32 m, .slice ao len cap, .int .u32 n] w fun e w' => e = .returned (.bool true) ∧ Below w.heap.size w w' := by
  have HH := hidden (huge_any ao len cap rs w ha)
  rw [hh] at HH
  clear ha hh
  go_enter Try.func5, Try.ntmps5
  go_wp2_with (first | (go_at_call 9; refine HH.out.mono ?_; rintro e w1 ⟨rfl, rfl⟩) | (go_at_call 10; refine (live_any _).mono ?_; rintro e w9 ⟨rfl, hb9⟩))
  go_ret
  exact ⟨rfl, hb9⟩
set_option maxHeartbeats 6000000 in
theorem back_main (m n : Nat) (ao : Option Addr) (len cap : Nat) (rs : List Ac) (w : World) (hm : m < 4294967296) (hn : n < 4294967296) (ha : IsActs w ao len cap rs) (hh : hugeB rs = false) :
    Calls Try.prog 5 #[.int .u32 m, .slice ao len cap, .int .u32 n] w fun e w' => e = .returned (.bool true) ∧ Below w.heap.size w w' := by
  have HH := hidden (huge_any ao len cap rs w ha)
  rw [hh] at HH
  have HN : Hid (Calls Try.prog 11 #[.int .u32 m] w fun e w' => e = .returned (.pointer (some ⟨w.heap.size, 0, none⟩)) ∧ Run w.heap.size w.heap.size w w' ⟨m, 0, 0, []⟩) := Run.new m w w w.heap.size (Below.refl _ _) (Nat.le_refl _)
  have HL : Hid (∀ w1 s, Run w.heap.size w.heap.size w w1 s → Calls Try.prog 10 #[] w1 fun e w' => e = .returned (.bool true) ∧ Below w.heap.size w w') := fun w1 s r => (live_any w1).mono (fun e w' hh => ⟨hh.1, by obtain ⟨v, _, hb, hB⟩ := r; exact hb.trans (hh.2.mono hB)⟩)
  obtain ⟨h1, h2, h3, h4, h5⟩ := ha
  have HLN := hidden h1
  have H4 := hidden h4
  have H5 := hidden h5
  have h3' : len ≤ 9223372036854775807 := by unfold maxLen at h3; omega
  clear h1 h4 h5 hh
  generalize hB : w.heap.size = B at *
  go_enter Try.func5, Try.ntmps5
  go_wp2_with (first | (go_at_call 9; refine HH.out.mono ?_; rintro e w1 ⟨rfl, e1⟩; obtain rfl := e1.symm) | (go_at_call 11; refine HN.out.mono ?_; rintro e w1 ⟨rfl, r1⟩))
  clear HH HN
  go_loopw [8] (fun i wr => ∃ (k : Nat) (s : Hs), k ≤ len ∧ i = .int .i64 k ∧ Run B B w wr s ∧ Hid (OkS s)) (fun i _ => len - (intOf i).toNat)
  case atStart => exact ⟨0, _, by omega, rfl, r1, hidden (ok_new hm)⟩
  case round =>
    obtain ⟨k, s, hk, rfl, rn, OK⟩ := hrel
    by_cases hlt : k < len
    · have hkl : k < rs.length := by rw [HLN.out]; exact hlt
      obtain ⟨b, off, rfl, hcell⟩ := H4.out (by omega)
      obtain ⟨c0, c1, c2, c3, c4⟩ := hcell k hkl
      obtain ⟨a1, a2, a3, a4, a5, a6, a7⟩ := H5.out rs[k] (List.getElem_mem hkl)
      generalize rs[k] = r at *
      have d1 : (k : Int) < (len : Int) := by omega
      have HM : Hid (r.k = 0 → ∀ w1, Run B B w w1 s → Calls Try.prog 12 #[.pointer (some ⟨B, 0, none⟩), .int .u32 r.n, .int .u32 r.e] w1 fun e w' => e = .returned (.tuple #[.int .u32 (mallocA s r.n r.e : Nat), .bool (mallocB s r.n r.e)]) ∧ Run B B w w' (actB s r)) := fun h w1 rr => by
        have := rr.any OK.out a3 a5
        rw [show actB s r = mallocS s r.n r.e by simp [actB, h]]
        exact this
      have HF : Hid (r.k = 1 → ∀ w1, Run B B w w1 s → Calls Try.prog 13 #[.pointer (some ⟨B, 0, none⟩), .int .u32 r.a] w1 fun e w' => e = .returned (.int .i64 (freeE s r.a : Nat)) ∧ Run B B w w' (actB s r)) := fun h w1 rr => by
        have := rr.free r.a OK.out
        rw [show actB s r = freeS s r.a by simp [actB, h]]
        exact this
      have HZ : Hid (r.k ≠ 0 → r.k ≠ 1 → actB s r = s) := fun h1 h2 => by simp [actB, h1, h2]
      have OK2 := hidden (ok_actB r OK.out)
      have hbw : Below w.heap.size w wr := by rw [hB]; exact rn.below
      have k0 := cellLater hbw c0
      have k1 := cellLater hbw c1
      have k2 := cellLater hbw c2
      have k3 := cellLater hbw c3
      have KC : Hid (∀ w1 t, Run B B w w1 t → w1.cell? ⟨b, off + k * 5, none⟩ = some (.int .i64 r.k) ∧ w1.cell? ⟨b, off + k * 5 + 1, none⟩ = some (.int .u32 r.n) ∧ w1.cell? ⟨b, off + k * 5 + 2, none⟩ = some (.int .u32 r.a) ∧ w1.cell? ⟨b, off + k * 5 + 3, none⟩ = some (.int .u32 r.e)) := fun w1 t rr => by
        have hb1 : Below w.heap.size w w1 := by rw [hB]; exact rr.below
        exact ⟨cellLater hb1 c0, cellLater hb1 c1, cellLater hb1 c2, cellLater hb1 c3⟩
      clear c0 c1 c2 c3 c4 hcell a6 OK
      obtain ⟨rk, rn', ra, re, rlo, rll, rlc, rlb⟩ := r
      simp only at *
      generalize actB s ⟨rk, rn', ra, re, rlo, rll, rlc, rlb⟩ = s2 at *
      have RD := hidden rn.drew
      by_cases q0 : rk = 0
      · subst q0
        have HM0 := hidden (HM.out rfl)
        clear HM HF HZ
        go_wp2_with fail
        go_region_held3 (fun w' => w'.cell? ⟨b, off + k * 5 + 1, none⟩ = some (.int .u32 rn') ∧ w'.cell? ⟨b, off + k * 5 + 3, none⟩ = some (.int .u32 re)) (first | assumption | exact ⟨by assumption, by assumption⟩ | fail) (first | (go_at_call 12; refine (HM0.out _ RD.out).mono ?_; rintro e w9 ⟨rfl, r9⟩; obtain ⟨n0, n1, n2, n3⟩ := KC.out _ _ r9) | fail)
        go_wp2
        go_roundw
        case rel => exact ⟨k + 1, s2, by omega, int_eq (by omega), r9, OK2⟩
        case measure => simp [intOf]; omega
      · by_cases q1 : rk = 1
        · subst q1
          have HF0 := hidden (HF.out rfl)
          clear HM HF HZ
          go_wp2_with (go_at_call 13; refine (HF0.out _ rn).mono ?_; rintro e w9 ⟨rfl, r9⟩)
          go_roundw
          case rel => exact ⟨k + 1, s2, by omega, int_eq (by omega), r9, OK2⟩
          case measure => simp [intOf]; omega
        · have e := HZ.out q0 q1
          have HE := hidden e
          clear HM HF HZ e
          go_wp2
          go_roundw
          case rel => exact ⟨k + 1, s2, by omega, int_eq (by omega), by rw [HE.out]; exact rn, OK2⟩
          case measure => simp [intOf]; omega
    · obtain rfl : k = len := by omega
      have HBL : Hid (Calls Try.prog 15 #[.pointer (some ⟨B, 0, none⟩)] wr fun e w' => ∃ ao c, e = .returned (.slice ao s.bs.length c) ∧ RunK B B w w' s (.slice ao s.bs.length c) s.bs) := rn.keep OK.out
      have HSM : Hid (∀ w1 t ao1 c1 ao2 c2, Bks w1 ao1 s.bs.length c1 s.bs → RunK B B w w1 t (.slice ao2 s.bs.length c2) s.bs → Calls Try.prog 20 #[.slice ao1 s.bs.length c1, .slice ao2 s.bs.length c2] w1 fun e w' => e = .returned (.bool true) ∧ RunK B B w w' t (.slice ao2 s.bs.length c2) s.bs) := fun w1 t ao1 c1 ao2 c2 hb1 rr => (same_eq ao1 ao2 _ c1 c2 s.bs w1 hb1 (rr.bks rfl)).mono (fun e w' hh => ⟨hh.1, rr.later hh.2⟩)
      have hlen := OK.out.len
      cases hmr : mallocR s n 1024 with
      | none =>
        have HM : Hid (∀ w1 u, RunK B B w w1 s u s.bs → Calls Try.prog 12 #[.pointer (some ⟨B, 0, none⟩), .int .u32 n, .int .u32 1024] w1 fun e w' => e = .returned (.tuple #[.int .u32 0, .bool false]) ∧ RunK B B w w' s u s.bs) := fun w1 u rr => rr.refuse (n := n) (x := 1024) OK.out hn (by decide) hmr
        have HAG : Hid (∀ w1 u, RunK B B w w1 s u s.bs → Calls Try.prog 15 #[.pointer (some ⟨B, 0, none⟩)] w1 fun e w' => ∃ ao c, e = .returned (.slice ao s.bs.length c) ∧ Hid (Bks w' ao s.bs.length c s.bs) ∧ RunK B B w w' s u s.bs) := fun w1 u rr => rr.again OK.out
        obtain ⟨s2, hs2⟩ : ∃ s2, s2 = s := ⟨_, rfl⟩
        have OK2 : Hid (OkS s2) := by rw [hs2]; exact OK
        have HB2 : Hid (s2.bs = s.bs) := by rw [hs2]; exact rfl
        clear hmr OK
        go_wp2_with (first | (go_at_call 15; (with_reducible refine HBL.out.mono ?_); rintro e w2 ⟨ao2, c2, rfl, r2⟩; clear HBL) | (go_at_call 12; refine (HM.out _ _ r2).mono ?_; rintro e w3 ⟨rfl, r3⟩) | (go_at_call 15; refine (HAG.out _ _ r3).mono ?_; rintro e w4 ⟨ao4, c4, rfl, HK4, r40⟩) | (go_at_call 20; refine (HSM.out _ _ _ _ _ _ HK4.out r40).mono ?_; rintro e w5 ⟨rfl, r4⟩))
        have r4' : RunK B B w w5 s2 (.slice ao2 s.bs.length c2) s.bs := by rw [hs2]; exact r4
        replace r4 := r4'
        clear HM HAG HSM hs2 r2 r3 r40 HK4 r4'

        have R4 := hidden r4
        clear r4
        generalize hbs : s.bs = bs at *
        generalize hnn : bs.length = nb at *
        have HBS := hidden hbs
        have HNB := hidden hnn
        clear hbs hnn
        have hc2 : nb ≤ c2 := ((R4.out).bks HNB.out).2.1
        go_loopw [12] (fun i wi => ∃ (j : Nat) (t : Hs), j ≤ nb ∧ i = .int .i64 ((j : Int) - 1) ∧ RunK B B w wi t (.slice ao2 nb c2) bs ∧ Hid (OkS t) ∧ Hid (t.bs = bs.take j)) (fun i _ => (intOf i + 1).toNat)
        case atStart => exact ⟨nb, s2, Nat.le_refl _, int_eq (by omega), R4.out, OK2, hidden (by rw [HB2.out, List.take_of_length_le (by rw [HNB.out]; exact Nat.le_refl _)])⟩
        case round =>
          obtain ⟨j, t, hj, rfl, rt, OKT, HT⟩ := hrel
          clear R4 OK2 HB2 HBS
          by_cases hj0 : 0 < j
          · obtain ⟨i, rfl⟩ : ∃ i, j = i + 1 := ⟨j - 1, by omega⟩
            have hil : i < bs.length := by rw [HNB.out]; omega
            have hbl := back_last OKT.out HT.out hil
            have hkk := rt.bks HNB.out
            obtain ⟨g, off2, rfl, hcells⟩ := bks_cells hkk (by omega)
            have ha := (hcells i hil).1
            generalize bs[i] = bb at *
            obtain ⟨ba, bl⟩ := bb
            simp only at ha hbl
            have htl : 0 < t.bs.length := by rw [HT.out, List.length_take]; omega
            have HAC : Hid (Calls Try.prog 18 #[.pointer (some ⟨B, 0, none⟩)] wr fun e w' => e = .returned (.bool true) ∧ w' = wr) := by
              have := rt.run.active
              rw [show decide (0 < t.bs.length) = true by simp [htl]] at this
              exact this
            have HFR : Hid (Calls Try.prog 13 #[.pointer (some ⟨B, 0, none⟩), .int .u32 ba] wr fun e w' => e = .returned (.int .i64 0) ∧ RunK B B w w' (freeS t ba) (.slice (some ⟨g, off2, none⟩) nb c2) bs) := by
              have := rt.free ba OKT.out
              rw [hbl.1] at this
              exact this
            have OK3 := hidden (ok_free ba OKT.out)
            have HT3 := hidden hbl.2
            clear hbl hcells hkk OKT HT htl
            have e1 : ((i + 1 : Nat) : Int) - 1 = (i : Int) := by omega
            rw [e1]
            have d1 : (0 : Int) ≤ (i : Int) := by omega
            have d2 : (i : Int) < (nb : Int) := by omega
            go_wp2_with (first | (go_at_call 18; refine HAC.out.mono ?_; rintro e w8 ⟨rfl, e8⟩; obtain rfl := e8.symm) | (go_at_call 13; refine HFR.out.mono ?_; rintro e w9 ⟨rfl, r9⟩) | (go_at_call 19; refine (num8 _ _).mono ?_; rintro e w8 ⟨rfl, e8⟩; obtain rfl := e8.symm))
            go_roundw
            case rel => exact ⟨i, freeS t ba, by omega, rfl, r9, OK3, HT3⟩
            case measure => first | (simp [intOf]; done) | (simp [intOf]; omega)
          · obtain rfl : j = 0 := by omega
            have ht0 : t.bs = [] := by rw [HT.out]; rfl
            have hnl := OKT.out.nil (by rw [ht0]; rfl)
            have HAC : Hid (Calls Try.prog 18 #[.pointer (some ⟨B, 0, none⟩)] wr fun e w' => e = .returned (.bool false) ∧ w' = wr) := by
              have := rt.run.active
              rw [show decide (0 < t.bs.length) = false by simp [ht0]] at this
              exact this
            have HST : Hid (Calls Try.prog 16 #[.pointer (some ⟨B, 0, none⟩)] wr fun e w' => e = .returned (.int .u32 0) ∧ w' = wr) := by
              have := rt.run.start
              rw [hnl.1] at this
              exact this
            have HEN : Hid (Calls Try.prog 17 #[.pointer (some ⟨B, 0, none⟩)] wr fun e w' => e = .returned (.int .u32 0) ∧ w' = wr) := by
              have := rt.run.end
              rw [hnl.2] at this
              exact this
            have HBK : Hid (Calls Try.prog 15 #[.pointer (some ⟨B, 0, none⟩)] wr fun e w' => ∃ ao c, e = .returned (.slice ao 0 c) ∧ Run B B w w' t) := by
              have := rt.run.keep OKT.out
              rw [ht0] at this
              exact this.mono (fun e w' hh => by obtain ⟨ao, c, h1, h2⟩ := hh; exact ⟨ao, c, h1, h2.run⟩)
            clear OKT HT ht0 hnl
            go_wp2_with (first | (go_at_call 18; refine HAC.out.mono ?_; rintro e w8 ⟨rfl, e8⟩; obtain rfl := e8.symm) | (go_at_call 16; refine HST.out.mono ?_; rintro e w8 ⟨rfl, e8⟩; obtain rfl := e8.symm) | (go_at_call 17; refine HEN.out.mono ?_; rintro e w8 ⟨rfl, e8⟩; obtain rfl := e8.symm) | (go_at_call 15; refine HBK.out.mono ?_; rintro e w7 ⟨ao7, c7, rfl, r7⟩) | (go_at_call 10; refine (HL.out _ _ r7).mono ?_; rintro e w6 ⟨rfl, hb6⟩))
            go_ret
            exact ⟨rfl, hb6⟩

      | some rr =>
        obtain ⟨A, s1⟩ := rr
        have hbf := back_free OK.out hmr
        have ok1 := ok_malloc_to OK.out hmr
        have HM : Hid (∀ w1 u, RunK B B w w1 s u s.bs → Calls Try.prog 12 #[.pointer (some ⟨B, 0, none⟩), .int .u32 n, .int .u32 1024] w1 fun e w' => e = .returned (.tuple #[.int .u32 A, .bool true]) ∧ RunK B B w w' s1 u s.bs) := fun w1 u rr => rr.malloc (n := n) (x := 1024) OK.out hn (by decide) hmr
        obtain ⟨s2, hs2⟩ : ∃ s2, s2 = freeS s1 A := ⟨_, rfl⟩
        have HFA : Hid (∀ w1 u, RunK B B w w1 s1 u s.bs → Calls Try.prog 13 #[.pointer (some ⟨B, 0, none⟩), .int .u32 A] w1 fun e w' => e = .returned (.int .i64 0) ∧ RunK B B w w' s2 u s.bs) := fun w1 u rr => by
          have := rr.free A ok1
          rw [hbf.1, ← hs2] at this
          exact this
        have OK2 : Hid (OkS s2) := by rw [hs2]; exact ok_free A ok1
        have HB2 : Hid (s2.bs = s.bs) := by rw [hs2]; exact hbf.2
        have HAG : Hid (∀ w1 u, RunK B B w w1 s2 u s.bs → Calls Try.prog 15 #[.pointer (some ⟨B, 0, none⟩)] w1 fun e w' => ∃ ao c, e = .returned (.slice ao s.bs.length c) ∧ Hid (Bks w' ao s.bs.length c s.bs) ∧ RunK B B w w' s2 u s.bs) := fun w1 u rr => by
          have := rr.again OK2.out
          rw [HB2.out] at this
          exact this
        clear hmr OK hbf ok1 hs2
        go_wp2_with (first | (go_at_call 15; (with_reducible refine HBL.out.mono ?_); rintro e w2 ⟨ao2, c2, rfl, r2⟩; clear HBL) | (go_at_call 12; refine (HM.out _ _ r2).mono ?_; rintro e w3 ⟨rfl, r3⟩) | (go_at_call 13; refine (HFA.out _ _ r3).mono ?_; rintro e w3' ⟨rfl, r3'⟩) | (go_at_call 19; refine (num8 _ _).mono ?_; rintro e w8 ⟨rfl, e8⟩; obtain rfl := e8.symm) | (go_at_call 15; refine (HAG.out _ _ r3').mono ?_; rintro e w4 ⟨ao4, c4, rfl, HK4, r40⟩) | (go_at_call 20; refine (HSM.out _ _ _ _ _ _ HK4.out r40).mono ?_; rintro e w5 ⟨rfl, r4⟩))
        clear HM HFA HAG HSM r2 r3 r3' r40 HK4

        have R4 := hidden r4
        clear r4
        generalize hbs : s.bs = bs at *
        generalize hnn : bs.length = nb at *
        have HBS := hidden hbs
        have HNB := hidden hnn
        clear hbs hnn
        have hc2 : nb ≤ c2 := ((R4.out).bks HNB.out).2.1
        go_loopw [12] (fun i wi => ∃ (j : Nat) (t : Hs), j ≤ nb ∧ i = .int .i64 ((j : Int) - 1) ∧ RunK B B w wi t (.slice ao2 nb c2) bs ∧ Hid (OkS t) ∧ Hid (t.bs = bs.take j)) (fun i _ => (intOf i + 1).toNat)
        case atStart => exact ⟨nb, s2, Nat.le_refl _, int_eq (by omega), R4.out, OK2, hidden (by rw [HB2.out, List.take_of_length_le (by rw [HNB.out]; exact Nat.le_refl _)])⟩
        case round =>
          obtain ⟨j, t, hj, rfl, rt, OKT, HT⟩ := hrel
          clear R4 OK2 HB2 HBS
          by_cases hj0 : 0 < j
          · obtain ⟨i, rfl⟩ : ∃ i, j = i + 1 := ⟨j - 1, by omega⟩
            have hil : i < bs.length := by rw [HNB.out]; omega
            have hbl := back_last OKT.out HT.out hil
            have hkk := rt.bks HNB.out
            obtain ⟨g, off2, rfl, hcells⟩ := bks_cells hkk (by omega)
            have ha := (hcells i hil).1
            generalize bs[i] = bb at *
            obtain ⟨ba, bl⟩ := bb
            simp only at ha hbl
            have htl : 0 < t.bs.length := by rw [HT.out, List.length_take]; omega
            have HAC : Hid (Calls Try.prog 18 #[.pointer (some ⟨B, 0, none⟩)] wr fun e w' => e = .returned (.bool true) ∧ w' = wr) := by
              have := rt.run.active
              rw [show decide (0 < t.bs.length) = true by simp [htl]] at this
              exact this
            have HFR : Hid (Calls Try.prog 13 #[.pointer (some ⟨B, 0, none⟩), .int .u32 ba] wr fun e w' => e = .returned (.int .i64 0) ∧ RunK B B w w' (freeS t ba) (.slice (some ⟨g, off2, none⟩) nb c2) bs) := by
              have := rt.free ba OKT.out
              rw [hbl.1] at this
              exact this
            have OK3 := hidden (ok_free ba OKT.out)
            have HT3 := hidden hbl.2
            clear hbl hcells hkk OKT HT htl
            have e1 : ((i + 1 : Nat) : Int) - 1 = (i : Int) := by omega
            rw [e1]
            have d1 : (0 : Int) ≤ (i : Int) := by omega
            have d2 : (i : Int) < (nb : Int) := by omega
            go_wp2_with (first | (go_at_call 18; refine HAC.out.mono ?_; rintro e w8 ⟨rfl, e8⟩; obtain rfl := e8.symm) | (go_at_call 13; refine HFR.out.mono ?_; rintro e w9 ⟨rfl, r9⟩) | (go_at_call 19; refine (num8 _ _).mono ?_; rintro e w8 ⟨rfl, e8⟩; obtain rfl := e8.symm))
            go_roundw
            case rel => exact ⟨i, freeS t ba, by omega, rfl, r9, OK3, HT3⟩
            case measure => first | (simp [intOf]; done) | (simp [intOf]; omega)
          · obtain rfl : j = 0 := by omega
            have ht0 : t.bs = [] := by rw [HT.out]; rfl
            have hnl := OKT.out.nil (by rw [ht0]; rfl)
            have HAC : Hid (Calls Try.prog 18 #[.pointer (some ⟨B, 0, none⟩)] wr fun e w' => e = .returned (.bool false) ∧ w' = wr) := by
              have := rt.run.active
              rw [show decide (0 < t.bs.length) = false by simp [ht0]] at this
              exact this
            have HST : Hid (Calls Try.prog 16 #[.pointer (some ⟨B, 0, none⟩)] wr fun e w' => e = .returned (.int .u32 0) ∧ w' = wr) := by
              have := rt.run.start
              rw [hnl.1] at this
              exact this
            have HEN : Hid (Calls Try.prog 17 #[.pointer (some ⟨B, 0, none⟩)] wr fun e w' => e = .returned (.int .u32 0) ∧ w' = wr) := by
              have := rt.run.end
              rw [hnl.2] at this
              exact this
            have HBK : Hid (Calls Try.prog 15 #[.pointer (some ⟨B, 0, none⟩)] wr fun e w' => ∃ ao c, e = .returned (.slice ao 0 c) ∧ Run B B w w' t) := by
              have := rt.run.keep OKT.out
              rw [ht0] at this
              exact this.mono (fun e w' hh => by obtain ⟨ao, c, h1, h2⟩ := hh; exact ⟨ao, c, h1, h2.run⟩)
            clear OKT HT ht0 hnl
            go_wp2_with (first | (go_at_call 18; refine HAC.out.mono ?_; rintro e w8 ⟨rfl, e8⟩; obtain rfl := e8.symm) | (go_at_call 16; refine HST.out.mono ?_; rintro e w8 ⟨rfl, e8⟩; obtain rfl := e8.symm) | (go_at_call 17; refine HEN.out.mono ?_; rintro e w8 ⟨rfl, e8⟩; obtain rfl := e8.symm) | (go_at_call 15; refine HBK.out.mono ?_; rintro e w7 ⟨ao7, c7, rfl, r7⟩) | (go_at_call 10; refine (HL.out _ _ r7).mono ?_; rintro e w6 ⟨rfl, hb6⟩))
            go_ret
            exact ⟨rfl, hb6⟩

theorem heapBack_walk (m : Int) (ao : Option Addr) (len cap : Nat) (rs : List Ac) (n : Int) (w : World) (hm : (Lit.int .u32 m).wf = true) (ha : IsActs w ao len cap rs) (hn : (Lit.int .u32 n).wf = true) :
    Calls Try.prog 5 #[.int .u32 m, .slice ao len cap, .int .u32 n] w fun e w' => e = .returned (.bool true) ∧ Below w.heap.size w w' := by
  have b0 := bounds_u32 hm
  have b1 := bounds_u32 hn
  obtain ⟨m, rfl⟩ := Int.eq_ofNat_of_zero_le b0.1
  obtain ⟨n, rfl⟩ := Int.eq_ofNat_of_zero_le b1.1
  cases hh : hugeB rs with
  | true => exact back_huge m n ao len cap rs w ha hh
  | false => exact back_main m n ao len cap rs w (by omega) (by omega) ha hh
end Go.Proofs.Ytfkplfaikicidaa
