/- The walk of HeapPlays. -/
import Derived.Test.YthdbaiddmelhgaaE9p
namespace Go.Proofs.Ythdbaiddmelhgaa
open Go.RowKit
set_option maxHeartbeats 1000000
set_option maxRecDepth 100000
set_option linter.unusedVariables false

set_option maxHeartbeats 4000000 in
theorem plays_main (m : Nat) (ao : Option Addr) (len cap : Nat) (rs : List Ac) (w : World) (hm : m < 4294967296) (ha : IsActs w ao len cap rs) (hh : hugeB rs = false) :
    Calls Try.prog 3 #[.int .u32 m, .slice ao len cap] w fun e w' => e = .returned (.bool true) ∧ Below w.heap.size w w' := by
  have HH := hidden (huge_any ao len cap rs w ha)
  rw [hh] at HH
  have HSM : Hid (∀ r ∈ rs, r.ll ≤ 9000) := fun r hr => by
    have h1 := sum_mem hr
    unfold hugeB at hh
    simp at hh
    omega
  have HN : Hid (Calls Try.prog 6 #[.int .u32 m] w fun e w' => e = .returned (.pointer (some ⟨w.heap.size, 0, none⟩)) ∧ Run w.heap.size w.heap.size w w' ⟨m, 0, 0, []⟩) := Run.new m w w w.heap.size (Below.refl _ _) (Nat.le_refl _)
  have HL : Hid (∀ h d w1 s, HalfS w.heap.size h d w w1 s s [] → Calls Try.prog 5 #[] w1 fun e w' => e = .returned (.bool true) ∧ Below w.heap.size w w') := fun h d w1 s r => (live_any w1).mono (fun e w' hh => ⟨hh.1, by obtain ⟨v, _, hb, hB⟩ := r.run; exact hb.trans (hh.2.mono hB)⟩)
  obtain ⟨h1, h2, h3, h4, h5⟩ := ha
  have HLN := hidden h1
  have H4 := hidden h4
  have H5 := hidden h5
  have h3' : len ≤ 9223372036854775807 := by unfold maxLen at h3; omega
  clear h1 h4 h5 hh
  have HSZ := hidden (rfl : w.heap.size = w.heap.size)
  generalize hB : w.heap.size = B at *
  go_enter Try.func3, Try.ntmps3
  go_wp2_with (first | (go_at_call 4; refine HH.out.mono ?_; rintro e w1 ⟨rfl, e1⟩; obtain rfl := e1.symm) | (go_at_call 6; refine HN.out.mono ?_; rintro e w1 ⟨rfl, r1⟩; have R1 := hidden r1; clear r1))
  clear HH HN HSZ
  have R0 : Hid (HalfS B B w1.heap.size w (w1.alloc (.cells #[.int .i64 m, .int .i64 0, .int .i64 0, .slice none 0 0] 31)) ⟨m, 0, 0, []⟩ ⟨m, 0, 0, []⟩ []) := by
    obtain ⟨v, hp, hb, hB1⟩ := R1.out
    have hba : Below w1.heap.size w1 (w1.alloc (.cells #[.int .i64 m, .int .i64 0, .int .i64 0, .slice none 0 0] 31)) := (Below.refl _ _).alloc (Nat.le_refl _) _
    exact ⟨⟨m, 0, 0, []⟩, v, .slice none 0 0, hp.later hba, ⟨hB1, heap_alloc_new w1 _, World.ownsRow_nil _ _ _ _⟩, (fun k _ e => by cases e), hb.trans (hba.mono hB1), Nat.le_trans hB1 hba.size, ⟨rfl, rfl, rfl, List.Perm.refl _⟩, by simp⟩
  clear R1
  generalize hd : w1.heap.size = d at *
  clear hd
  go_loopw [5, 7] (fun hv i wr => ∃ (k h : Nat) (s : Hs), k ≤ len ∧ hv = .pointer (some ⟨h, 0, none⟩) ∧ i = .int .i64 k ∧ Hid (HalfS B h d w wr s s []) ∧ Hid (OkS s) ∧ Hid (s.most = m)) (fun _ i _ => len - (intOf i).toNat)
  case atStart => exact ⟨0, B, _, by omega, rfl, rfl, R0, hidden (ok_new hm), hidden rfl⟩
  case round =>
    clear R0
    obtain ⟨k, h, s, hk, rfl, rfl, RN, OK, MO⟩ := hrel
    by_cases hlt : k < len
    · have hkl : k < rs.length := by rw [HLN.out]; exact hlt
      obtain ⟨b, off, rfl, hcell⟩ := H4.out (by omega)
      obtain ⟨c0, c1, c2, c3, c4⟩ := hcell k hkl
      have hao := H5.out rs[k] (List.getElem_mem hkl)
      have hll := HSM.out rs[k] (List.getElem_mem hkl)
      generalize rs[k] = r at *
      have d1 : (k : Int) < (len : Int) := by omega
      have HDO := hidden (does_any B h d s w wr r hB RN.out OK.out hao hll)
      have hbw : Below w.heap.size w wr := by rw [hB]; exact RN.out.run.below
      have k0 := cellLater hbw c0
      have k1 := cellLater hbw c1
      have k2 := cellLater hbw c2
      have k3 := cellLater hbw c3
      have k4 := cellLater hbw c4
      clear c0 c1 c2 c3 c4 hcell hao hll hbw H4 H5 HSM HL
      rw [MO.out] at HDO
      obtain ⟨rk, rn', ra, re, rlo, rll, rlc, rlb⟩ := r
      simp only at *
      go_wp2_with (first | (go_at_call 7; refine HDO.out.mono ?_; rintro e w2 ⟨h', s', rfl, r2, ok2, mo2⟩; have R2 := hidden r2; have OK2 := hidden ok2; have MO2 := hidden mo2; clear r2 ok2 mo2))
      clear HDO k0 k1 k2 k3 k4
      have hlen2 := OK2.out.len
      have HDR := hidden (Below.refl w2.heap.size w2).drew
      obtain ⟨au, cu, HCD, HDB⟩ : ∃ au cu, Hid (∀ wx, Below w2.heap.size w2 wx → wx.cell? ⟨d, 1, none⟩ = some (.int .i64 s'.start) ∧ wx.cell? ⟨d, 2, none⟩ = some (.int .i64 s'.en) ∧ wx.cell? ⟨d, 3, none⟩ = some (.slice au s'.bs.length cu)) ∧ Hid (∀ wx, Below w2.heap.size w2 wx → Calls Try.prog 10 #[.pointer (some ⟨d, 0, none⟩)] wx fun e w' => ∃ ao c, e = .returned (.slice ao s'.bs.length c) ∧ Hid (Bks w' ao s'.bs.length c s'.bs) ∧ Below w2.heap.size w2 w' ∧ Below wx.heap.size wx w') := by
        obtain ⟨t, v, u, p1, p2, p4, p5, p6, lk, _⟩ := R2.out
        obtain ⟨au, cu, rfl⟩ := own_slice2 p2.2.2
        have hle := lk.perm.length_eq
        obtain ⟨q0, q1, q2, q3, q4⟩ := p2.cells
        rw [lk.start] at q1
        rw [lk.en] at q2
        rw [hle] at q3
        refine ⟨au, cu, fun wx hb => ⟨cellLater hb q1, cellLater hb q2, cellLater hb q3⟩, fun wx hb => ?_⟩
        exact (dBl_any B d _ s' t wx (p2.later hb) OK2.out lk).mono (fun e w' hh => by
          obtain ⟨ao, c, he, ho, hb'⟩ := hh
          exact ⟨ao, c, he, own_bks ho, hb.trans (hb'.mono hb.size), hb'⟩)
      have HBL : Hid (∀ wx, Below w2.heap.size w2 wx → Calls Try.prog 9 #[.pointer (some ⟨h', 0, none⟩)] wx fun e w' => ∃ ao c, e = .returned (.slice ao s'.bs.length c) ∧ Hid (Bks w' ao s'.bs.length c s'.bs) ∧ Below w2.heap.size w2 w' ∧ Hid (∃ gs, HalfS B h' d w w' s' s' gs ∧ WrI w' ao s'.bs.length d B gs)) := fun wx hb => by
        have rx := (R2.out.later hb).1
        refine (rx.blocks OK2.out).mono ?_
        rintro e w' ⟨ao, c, rfl, ho, hb', r', _⟩
        refine ⟨ao, c, rfl, own_bks ho.out, hb.trans (hb'.mono hb.size), _, rx.own hb' ho.out, WrI.of ho.out ?_ ?_⟩
        · obtain ⟨t, v, u, p1, p2, p4, p5, p6, lk, _⟩ := rx
          exact (Array.getElem?_eq_some_iff.1 p2.2.1).1
        · obtain ⟨t, v, u, p1, p2, p4, p5, p6, lk, _⟩ := rx
          exact p6
      have HSA : Hid (∀ wx a1 c1 a2 c2, Below w2.heap.size w2 wx → Bks wx a1 s'.bs.length c1 s'.bs → Bks wx a2 s'.bs.length c2 s'.bs → Calls Try.prog 8 #[.slice a1 s'.bs.length c1, .slice a2 s'.bs.length c2] wx fun e w' => e = .returned (.bool true) ∧ Below w2.heap.size w2 w') := fun wx a1 c1 a2 c2 hb b1 b2 => (same_eq a1 a2 _ c1 c2 _ wx b1 b2).mono (fun e w' hh => ⟨hh.1, hb.trans (hh.2.mono hb.size)⟩)
      have HST : Hid (∀ wx, Below w2.heap.size w2 wx → Calls Try.prog 11 #[.pointer (some ⟨h', 0, none⟩)] wx fun e w' => e = .returned (.int .u32 s'.start) ∧ w' = wx) := fun wx hb => Run.start (R2.out.later hb).1.run
      have HEN : Hid (∀ wx, Below w2.heap.size w2 wx → Calls Try.prog 12 #[.pointer (some ⟨h', 0, none⟩)] wx fun e w' => e = .returned (.int .u32 s'.en) ∧ w' = wx) := fun wx hb => Run.end (R2.out.later hb).1.run
      have HAC : Hid (∀ wx, Below w2.heap.size w2 wx → Calls Try.prog 13 #[.pointer (some ⟨h', 0, none⟩)] wx fun e w' => e = .returned (.bool (decide (0 < s'.bs.length))) ∧ w' = wx) := fun wx hb => Run.active (R2.out.later hb).1.run
      clear R2
      obtain ⟨hst, hen⟩ : s'.start < 4294967296 ∧ s'.en < 4294967296 := by
        by_cases hz : s'.bs.length = 0
        · obtain ⟨e1, e2⟩ := OK2.out.nil hz
          omega
        · obtain ⟨o1, o2, o3, o4, o5⟩ := OK2.out.some (by omega)
          have h1 := o5.le
          have h2 := OK2.out.most
          omega
      generalize s'.bs.length = nb at *
      have w64 : ∀ X : Int, 0 ≤ X → X < 4294967296 → IntKind.i64.wrap X = X := fun X h1 h2 => by rw [IntKind.wrap_i64]; omega
      have hws := w64 (s'.start : Int) (by omega) (by omega)
      have hwe := w64 (s'.en : Int) (by omega) (by omega)
      clear w64 hst hen
      generalize (s'.start : Int) = st at *
      generalize (s'.en : Int) = en at *
      have hb2 := Below.refl w2.heap.size w2
      obtain ⟨q1, q2, q3⟩ := HCD.out _ hb2
      go_region_held3 (fun w' => w'.cell? ⟨d, 1, none⟩ = some (.int .i64 st) ∧ w'.cell? ⟨d, 2, none⟩ = some (.int .i64 en) ∧ w'.cell? ⟨d, 3, none⟩ = some (.slice au nb cu)) (first | assumption | exact HCD.out _ (by assumption) | go_keep) (first | (go_at_call 9; refine (HBL.out _ HDR.out).mono ?_; rintro e w3 ⟨a3, c3, rfl, bk3, hb3, _⟩) | (go_at_call 10; refine (HDB.out _ hb3).mono ?_; rintro e w4 ⟨a4, c4, rfl, bk4, hb4, hb34⟩; have bk3' := hidden (bk3.out.below hb34)) | (go_at_call 8; refine (HSA.out _ _ _ _ _ hb4 bk3'.out bk4.out).mono ?_; rintro e w5 ⟨rfl, hb5⟩) | (go_at_call 11; refine (HST.out _ hb5).mono ?_; rintro e w9 ⟨rfl, rfl⟩) | (go_at_call 12; refine (HEN.out _ hb5).mono ?_; rintro e w9 ⟨rfl, rfl⟩) | (go_at_call 13; refine (HAC.out _ hb5).mono ?_; rintro e w9 ⟨rfl, rfl⟩) | fail)
      clear q1 q2 q3 HDB HSA HST HEN HAC HCD hws hwe HDR
      go_wp2_with (first | (go_at_call 9; refine (HBL.out _ hb5).mono ?_; rintro e w6 ⟨a6, c6, rfl, bk6, hb6, HX⟩))
      obtain ⟨gs, r6, wr6⟩ := HX.out
      have hn6 : nb ≤ c6 := bk6.out.2.1
      have R6 := hidden r6
      have WR6 := hidden wr6
      clear r6 wr6 HX HBL bk6 bk3' bk4 bk3
      go_loopw [10] (fun i wr => ∃ j : Nat, j ≤ nb ∧ i = .int .i64 j ∧ Hid (HalfS B h' d w wr s' s' gs) ∧ Hid (WrI wr a6 nb d B gs)) (fun i _ => nb - (intOf i).toNat)
      case atStart => exact ⟨0, by omega, rfl, R6, WR6⟩
      case round =>
        clear R6 WR6
        obtain ⟨j, hj, rfl, R7, WR7⟩ := hrel
        by_cases hjl : j < nb
        · obtain ⟨g, cur, rfl, hm', hBg, hgq, hcur, hcs⟩ := WR7.out (by omega)
          have d2 : (j : Int) < (nb : Int) := by omega
          have f1 : wr.cell? ⟨g, j * 2, none⟩ = some (cur[j * 2]'(by omega)) := by simp [World.cell?, hcur]
          have f2 : wr.cell? ⟨g, j * 2 + 1, none⟩ = some (cur[j * 2 + 1]'(by omega)) := by simp [World.cell?, hcur]
          have f3 : wr.frozen? ⟨g, j * 2, none⟩ = false := by simp [World.frozen?, hcur]
          have f4 : wr.frozen? ⟨g, j * 2 + 1, none⟩ = false := by simp [World.frozen?, hcur]
          generalize cur[j * 2] = y1 at *
          generalize cur[j * 2 + 1] = y2 at *
          have HM := hidden hm'
          have HBG := hidden hBg
          clear hm' hBg hgq hcur hcs
          go_wp2
          go_roundw
          case rel => exact ⟨j + 1, by omega, int_eq (by omega), (R7.out.set g _ _ HM.out HBG.out).set g _ _ HM.out HBG.out, (WR7.out.set _ _).set _ _⟩
          case measure => simp [intOf]; omega
        · obtain rfl : j = nb := by omega
          go_wp2
          go_roundw
          case rel => exact ⟨k + 1, h', s', by omega, rfl, int_eq (by omega), R7.out.less (by simp), OK2, MO2⟩
          case measure => simp [intOf]; omega
    · obtain rfl : k = len := by omega
      go_wp2_with (first | (go_at_call 5; refine (HL.out _ _ _ _ RN.out).mono ?_; rintro e w9 ⟨rfl, hb9⟩))
      go_ret
      exact ⟨rfl, hb9⟩
theorem plays_huge (m : Nat) (ao : Option Addr) (len cap : Nat) (rs : List Ac) (w : World) (ha : IsActs w ao len cap rs) (hh : hugeB rs = true) :
    Calls Try.prog 3 #[.int .u32 m, .slice ao len cap] w fun e w' => e = .returned (.bool true) ∧ Below w.heap.size w w' := by
  have HH := hidden (huge_any ao len cap rs w ha)
  rw [hh] at HH
  clear ha hh
  go_enter Try.func3, Try.ntmps3
  go_wp2_with (first | (go_at_call 4; refine HH.out.mono ?_; rintro e w1 ⟨rfl, rfl⟩) | (go_at_call 5; refine (live_any _).mono ?_; rintro e w9 ⟨rfl, hb9⟩))
  go_ret
  exact ⟨rfl, hb9⟩
theorem heapPlays_walk (m : Int) (ao : Option Addr) (len cap : Nat) (rs : List Ac) (w : World) (hm : (Lit.int .u32 m).wf = true) (ha : IsActs w ao len cap rs) :
    Calls Try.prog 3 #[.int .u32 m, .slice ao len cap] w fun e w' => e = .returned (.bool true) ∧ Below w.heap.size w w' := by
  have b0 := bounds_u32 hm
  obtain ⟨m, rfl⟩ := Int.eq_ofNat_of_zero_le b0.1
  cases hh : hugeB rs with
  | true => exact plays_huge m ao len cap rs w ha hh
  | false => exact plays_main m ao len cap rs w (by omega) ha hh
end Go.Proofs.Ythdbaiddmelhgaa
