/- The walk of HeapApart. -/
import Derived.Test.YtfkplfaikicidaaE8s
import Derived.Deep.Cut
import Derived.Deep.CutRange
import Derived.Deep.RegionHeld3
namespace Go.Proofs.Ytfkplfaikicidaa
open Go.RowKit
set_option maxHeartbeats 1000000
set_option maxRecDepth 100000
set_option linter.unusedVariables false

theorem Run.below {B h : Nat} {w0 w : World} {s : Hs} (r : Run B h w0 w s) : Below B w0 w := by obtain ⟨v, _, hb, _⟩ := r; exact hb
theorem Run.drew {B h : Nat} {w0 w : World} {s : Hs} (r : Run B h w0 w s) : Run B h w0 w.drew s := r.later ((Below.refl _ _).drew)
/-- what an act makes of a heap (HeapApart) -/
def actR (s : Hs) (r : Ac) : Hs := if r.k = 0 then mallocS s r.n r.e else if r.k = 1 then freeS s r.a else if r.k = 3 then loadS s r.a r.e r.lb else s
theorem ok_act {s : Hs} (r : Ac) (ok : OkS s) : OkS (actR s r) := by
  unfold actR
  split
  · exact ok_malloc _ _ ok
  · split
    · exact ok_free _ ok
    · split
      · exact ok_load _ _ _ ok
      · exact ok
theorem most_act (s : Hs) (r : Ac) : (actR s r).most = s.most := by
  unfold actR
  split
  · exact most_malloc _ _ _
  · split
    · exact most_free _ _
    · split
      · exact most_load _ _ _ _
      · rfl
set_option maxHeartbeats 4000000 in
theorem apart_main (m : Nat) (ao : Option Addr) (len cap : Nat) (rs : List Ac) (w : World) (hm : m < 4294967296) (ha : IsActs w ao len cap rs) (hh : hugeB rs = false) :
    Calls Try.prog 3 #[.int .u32 m, .slice ao len cap] w fun e w' => e = .returned (.bool true) ∧ Below w.heap.size w w' := by
  have HH := hidden (huge_any ao len cap rs w ha)
  rw [hh] at HH
  have HN : Hid (Calls Try.prog 11 #[.int .u32 m] w fun e w' => e = .returned (.pointer (some ⟨w.heap.size, 0, none⟩)) ∧ Run w.heap.size w.heap.size w w' ⟨m, 0, 0, []⟩) := Run.new m w w w.heap.size (Below.refl _ _) (Nat.le_refl _)
  have HL : Hid (∀ w1 s, Run w.heap.size w.heap.size w w1 s → Calls Try.prog 10 #[] w1 fun e w' => e = .returned (.bool true) ∧ Below w.heap.size w w') := fun w1 s r => (live_any w1).mono (fun e w' hh => ⟨hh.1, by obtain ⟨v, _, hb, hB⟩ := r; exact hb.trans (hh.2.mono hB)⟩)
  obtain ⟨h1, h2, h3, h4, h5⟩ := ha
  have HLN := hidden h1
  have H4 := hidden h4
  have H5 := hidden h5
  have h3' : len ≤ 9223372036854775807 := by unfold maxLen at h3; omega
  clear h1 h4 h5 hh
  generalize hB : w.heap.size = B at *
  go_enter Try.func3, Try.ntmps3
  go_wp2_with (first | (go_at_call 9; refine HH.out.mono ?_; rintro e w1 ⟨rfl, e1⟩; obtain rfl := e1.symm) | (go_at_call 11; refine HN.out.mono ?_; rintro e w1 ⟨rfl, r1⟩))
  clear HH HN
  go_loopw [6] (fun i wr => ∃ (k : Nat) (s : Hs), k ≤ len ∧ i = .int .i64 k ∧ Run B B w wr s ∧ Hid (OkS s) ∧ Hid (s.most = m)) (fun i _ => len - (intOf i).toNat)
  case atStart => exact ⟨0, _, by omega, rfl, r1, hidden (ok_new hm), hidden rfl⟩
  case round =>
    obtain ⟨k, s, hk, rfl, rn, OK, MO⟩ := hrel
    by_cases hlt : k < len
    · have hkl : k < rs.length := by rw [HLN.out]; exact hlt
      obtain ⟨b, off, rfl, hcell⟩ := H4.out (by omega)
      obtain ⟨c0, c1, c2, c3, c4⟩ := hcell k hkl
      obtain ⟨a1, a2, a3, a4, a5, a6, a7⟩ := H5.out rs[k] (List.getElem_mem hkl)
      generalize rs[k] = r at *
      have d1 : (k : Int) < (len : Int) := by omega
      have HM : Hid (r.k = 0 → ∀ w1, Run B B w w1 s → Calls Try.prog 12 #[.pointer (some ⟨B, 0, none⟩), .int .u32 r.n, .int .u32 r.e] w1 fun e w' => e = .returned (.tuple #[.int .u32 (mallocA s r.n r.e : Nat), .bool (mallocB s r.n r.e)]) ∧ Run B B w w' (actR s r)) := fun h w1 rr => by
        have := rr.any OK.out a3 a5
        rw [show actR s r = mallocS s r.n r.e by simp [actR, h]]
        exact this
      have HF : Hid (r.k = 1 → ∀ w1, Run B B w w1 s → Calls Try.prog 13 #[.pointer (some ⟨B, 0, none⟩), .int .u32 r.a] w1 fun e w' => e = .returned (.int .i64 (freeE s r.a : Nat)) ∧ Run B B w w' (actR s r)) := fun h w1 rr => by
        have := rr.free r.a OK.out
        rw [show actR s r = freeS s r.a by simp [actR, h]]
        exact this
      have HLD : Hid (r.k = 3 → ∀ w1, Run B B w w1 s → Calls Try.prog 14 #[.pointer (some ⟨B, 0, none⟩), .int .u32 r.a, .int .u32 r.e, .slice r.lo r.ll r.lc] w1 fun e w' => e = .returned (.int .i64 (loadE s r.a r.e r.lb : Nat)) ∧ Run B B w w' (actR s r)) := fun h w1 rr => by
        have := rr.load r.a r.e r.lo r.ll r.lc r.lb (a6.1.below (by rw [hB]; exact rr.below)) a6.2 a4 a5
        rw [show actR s r = loadS s r.a r.e r.lb by simp [actR, h]]
        exact this
      have HZ : Hid (r.k ≠ 0 → r.k ≠ 1 → r.k ≠ 3 → actR s r = s) := fun h1 h2 h3 => by simp [actR, h1, h2, h3]
      have OK2 := hidden (ok_act r OK.out)
      have MO2 : Hid ((actR s r).most = m) := by rw [most_act]; exact MO.out
      have hbw : Below w.heap.size w wr := by rw [hB]; exact rn.below
      have k0 := cellLater hbw c0
      have k1 := cellLater hbw c1
      have k2 := cellLater hbw c2
      have k3 := cellLater hbw c3
      have k4 := cellLater hbw c4
      have KC : Hid (∀ w1 t, Run B B w w1 t → w1.cell? ⟨b, off + k * 5 + 1, none⟩ = some (.int .u32 r.n) ∧ w1.cell? ⟨b, off + k * 5 + 2, none⟩ = some (.int .u32 r.a) ∧ w1.cell? ⟨b, off + k * 5 + 3, none⟩ = some (.int .u32 r.e) ∧ w1.cell? ⟨b, off + k * 5 + 4, none⟩ = some (.slice r.lo r.ll r.lc)) := fun w1 t rr => by
        have hb1 : Below w.heap.size w w1 := by rw [hB]; exact rr.below
        exact ⟨cellLater hb1 c1, cellLater hb1 c2, cellLater hb1 c3, cellLater hb1 c4⟩
      clear c0 c1 c2 c3 c4 hcell a6 OK MO
      obtain ⟨rk, rn', ra, re, rlo, rll, rlc, rlb⟩ := r
      simp only at *
      generalize actR s ⟨rk, rn', ra, re, rlo, rll, rlc, rlb⟩ = s2 at *
      iterate 26 go_step
      go_cut [] from 23 to 69 (fun wx => Run B B w wx s2)
      case first =>
        have RD := hidden rn.drew
        by_cases q0 : rk = 0
        · subst q0
          have HM0 := hidden (HM.out rfl)
          clear HM HF HLD HZ
          go_wp2_with fail
          go_region_held3 (fun w' => w'.cell? ⟨b, off + k * 5 + 1, none⟩ = some (.int .u32 rn') ∧ w'.cell? ⟨b, off + k * 5 + 3, none⟩ = some (.int .u32 re)) (first | assumption | exact ⟨by assumption, by assumption⟩ | fail) (first | (go_at_call 12; refine (HM0.out _ RD.out).mono ?_; rintro e w9 ⟨rfl, r9⟩; obtain ⟨n1, n2, n3, n4⟩ := KC.out _ _ r9) | fail)
          all_goals (try go_wp2_with fail)
          all_goals go_meet
          all_goals exact r9
        · by_cases q1 : rk = 1
          · subst q1
            have HF0 := hidden (HF.out rfl)
            clear HM HF HLD HZ
            go_wp2_with (go_at_call 13; refine (HF0.out _ rn).mono ?_; rintro e w9 ⟨rfl, r9⟩)
            all_goals go_meet
            all_goals exact r9
          · by_cases q3 : rk = 3
            · subst q3
              have HD0 := hidden (HLD.out rfl)
              clear HM HF HLD HZ
              go_wp2_with fail
              go_region_held3 (fun w' => w'.cell? ⟨b, off + k * 5 + 2, none⟩ = some (.int .u32 ra) ∧ w'.cell? ⟨b, off + k * 5 + 3, none⟩ = some (.int .u32 re) ∧ w'.cell? ⟨b, off + k * 5 + 4, none⟩ = some (.slice rlo rll rlc)) (first | assumption | exact ⟨by assumption, by assumption, by assumption⟩ | fail) (first | (go_at_call 14; refine (HD0.out _ RD.out).mono ?_; rintro e w9 ⟨rfl, r9⟩; obtain ⟨n1, n2, n3, n4⟩ := KC.out _ _ r9) | fail)
              all_goals (try go_wp2_with fail)
              all_goals go_meet
              all_goals exact r9
            · have e := HZ.out q0 q1 q3
              have HE := hidden e
              clear HM HF HLD HZ e
              go_wp2_with fail
              all_goals go_meet
              rw [HE.out]
              exact rn
      case rest =>
        clear HM HF HLD HZ KC k0 k1 k2 k3 k4 rn
        have rc := hcut
        clear hcut
        have HBL : Hid (∀ w1, Run B B w w1 s2 → Calls Try.prog 15 #[.pointer (some ⟨B, 0, none⟩)] w1 fun e w' => ∃ ao c, e = .returned (.slice ao s2.bs.length c) ∧ Hid (Bks w' ao s2.bs.length c s2.bs) ∧ s2.bs.length ≤ c ∧ Run B B w w' s2) := fun w1 rr => by
          obtain ⟨v, hp, hb, hB⟩ := rr
          refine (blocks_any B B v s2 w1 hp OK2.out.len).mono ?_
          rintro e w' ⟨ao, c, rfl, ho, hb'⟩
          exact ⟨ao, c, rfl, own_bks ho, (own_bks ho).2.1, Run.later ⟨v, hp, hb, hB⟩ hb'⟩
        have HST : Hid (∀ w1, Run B B w w1 s2 → Calls Try.prog 16 #[.pointer (some ⟨B, 0, none⟩)] w1 fun e w' => e = .returned (.int .u32 s2.start) ∧ w' = w1) := fun w1 rr => rr.start
        have HEN : Hid (∀ w1, Run B B w w1 s2 → Calls Try.prog 17 #[.pointer (some ⟨B, 0, none⟩)] w1 fun e w' => e = .returned (.int .u32 s2.en) ∧ w' = w1) := fun w1 rr => rr.end
        have HAC : Hid (∀ w1, Run B B w w1 s2 → Calls Try.prog 18 #[.pointer (some ⟨B, 0, none⟩)] w1 fun e w' => e = .returned (.bool (decide (0 < s2.bs.length))) ∧ w' = w1) := fun w1 rr => rr.active
        have hlen := OK2.out.len
        have HCH : Hid (0 < s2.bs.length → Chain s2.en s2.start s2.bs ∧ s2.en % 256 = 0 ∧ s2.start % 256 = 0 ∧ s2.en ≤ m) := fun h => by
          have := OK2.out.some h
          exact ⟨this.2.2.2.2, this.2.2.1, this.2.1, by rw [← MO2.out]; exact this.2.2.2.1⟩
        have hen : s2.en < 4294967296 ∧ s2.start < 4294967296 := by
          by_cases h : 0 < s2.bs.length
          · have := HCH.out h
            have := this.1.le
            omega
          · have := OK2.out.nil (by omega)
            omega
        have hws : IntKind.u64.wrap (s2.start : Int) = (s2.start : Int) := by rw [IntKind.wrap_u64]; omega
        go_wp2_with (first | (go_at_call 15; refine (HBL.out _ rc).mono ?_; rintro e w2 ⟨ao2, c2', rfl, HB2, hc2, r2⟩) | (go_at_call 16; refine (HST.out _ r2).mono ?_; rintro e w3 ⟨rfl, e3⟩; obtain rfl := e3.symm))
        clear HBL
        generalize hbs : s2.bs = bs at *
        generalize hn2 : bs.length = n2 at *
        generalize hse : s2.en = se at *
        generalize hss : s2.start = ss at *
        have HN2 := hidden hn2
        clear hbs hn2 hse hss
        have hb20 := Below.refl w2.heap.size w2
        go_loopw [8, 9] (fun u i wi => ∃ j f : Nat, j ≤ n2 ∧ i = .int .i64 j ∧ u = .int .u64 f ∧ f < 4294967296 ∧ Below w2.heap.size w2 wi ∧ Hid (0 < n2 → Chain se f (bs.drop j))) (fun _ i _ => n2 - (intOf i).toNat)
        case atStart => exact ⟨0, ss, by omega, rfl, rfl, hen.2, hb20, hidden (fun h => (HCH.out h).1)⟩
        case round =>
          obtain ⟨j, f, hj, rfl, rfl, hf, hbi, HJ⟩ := hrel
          by_cases hjl : j < n2
          · obtain ⟨g, off2, rfl, hcells⟩ := bks_cells HB2.out (by omega)
            have hjb : j < bs.length := by rw [HN2.out]; exact hjl
            have ha := cellLater hbi (hcells j hjb).1
            have hl := cellLater hbi (hcells j hjb).2
            have hch := HJ.out (by omega)
            rw [List.drop_eq_getElem_cons hjb] at hch
            clear hcells HJ
            generalize bs[j] = bb at *
            obtain ⟨a, l⟩ := bb
            simp only at ha hl
            have hle : a + l ≤ se := hch.2.2.le
            have q1 : 0 < l := hch.1
            have q2 : f ≤ a := hch.2.1
            have HCR := hidden hch.2.2
            clear hch
            have d1 : ¬ (l : Int) = 0 := by omega
            have d2 : ¬ (a : Int) < (f : Int) := by omega
            have d3 : (j : Int) < (n2 : Int) := by omega
            have d4 : ((l : Int) == 0) = false := by rw [beq_eq_false_iff_ne]; exact d1
            have hw1 : IntKind.u64.wrap ((a : Int) + (l : Int)) = (a : Int) + (l : Int) := by rw [IntKind.wrap_u64]; omega
            go_wp2_with fail
            go_quiet (fail)
            go_wp2
            go_roundw
            case rel => exact ⟨j + 1, a + l, by omega, int_eq (by omega), int_eq (by omega), by omega, ⟨hbi.os, hbi.tape, hbi.output, hbi.size, hbi.block⟩, hidden (fun _ => HCR.out)⟩
            case measure => simp [intOf]; omega
          · obtain rfl : j = n2 := by omega
            have r3 := r2.later hbi
            by_cases h0 : 0 < j
            · have hfe := (HJ.out h0)
              rw [List.drop_of_length_le (by rw [HN2.out]; exact Nat.le_refl _)] at hfe
              obtain ⟨_, z1, z2, z3⟩ := HCH.out h0
              have d1 : ¬ (se : Int) < (f : Int) := by have : f ≤ se := hfe; omega
              have d2 : ¬ (m : Int) < (se : Int) := by omega
              have d3 : (se : Int).tmod 256 = 0 := by rw [Int.tmod_eq_emod_of_nonneg (by omega)]; omega
              have d4 : (ss : Int).tmod 256 = 0 := by rw [Int.tmod_eq_emod_of_nonneg (by omega)]; omega
              have d5 : (0 : Int) < (j : Int) := by omega
              have d6 : ¬ (4096 : Int) < (j : Int) := by omega
              have d7 : decide (0 < j) = true := by simp [h0]
              clear hfe
              go_wp2_with (first | (go_at_call 17; refine (HEN.out _ r3).mono ?_; rintro e w3 ⟨rfl, e3⟩; obtain rfl := e3.symm) | (go_at_call 16; refine (HST.out _ r3).mono ?_; rintro e w3 ⟨rfl, e3⟩; obtain rfl := e3.symm) | (go_at_call 18; refine (HAC.out _ r3).mono ?_; rintro e w3 ⟨rfl, e3⟩; obtain rfl := e3.symm))
              go_roundw
              case rel => exact ⟨k + 1, s2, by omega, int_eq (by omega), r3, OK2, MO2⟩
              case measure => simp [intOf]; omega
            · obtain rfl : j = 0 := by omega
              go_wp2_with (first | (go_at_call 18; refine (HAC.out _ r3).mono ?_; rintro e w3 ⟨rfl, e3⟩; obtain rfl := e3.symm))
              go_roundw
              case rel => exact ⟨k + 1, s2, by omega, int_eq (by omega), r3, OK2, MO2⟩
              case measure => simp [intOf]; omega
    · obtain rfl : k = len := by omega
      go_wp2_with (go_at_call 10; refine (HL.out _ _ rn).mono ?_; rintro e w9 ⟨rfl, hb9⟩)
      go_ret
      exact ⟨rfl, hb9⟩
end Go.Proofs.Ytfkplfaikicidaa
