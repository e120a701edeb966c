/- The walk of StackRolls: n is above 0. -/
import Derived.Test.YthhnloabbmllhaaT10l
namespace Go.Proofs.Ythhnloabbmllhaa
open Go.RowKit
set_option maxHeartbeats 1000000
set_option maxRecDepth 100000
set_option linter.unusedVariables false

set_option maxHeartbeats 2000000 in
theorem rolls_pn (a : Option Addr) (len cap n k : Nat) (xs : List Nat) (w : World) (hv : VRow w a len xs) (hc : len ≤ cap) (hl : len ≤ 400) (hn : n < 4294967296) (hk : k < 4294967296) (hnl : n ≤ len) (hn0 : ¬ n = 0) (hkx : ¬ k = 2147483648) :
    Calls Try.prog 4 #[.slice a len cap, .int .u32 n, .int .u32 k] w fun e w' => e = .returned (.bool true) ∧ Below w.heap.size w w' := by
  have d : ¬ (len : Int) > 400 := by omega
  have hxl := hv.ln
  have HBG := hidden (begin_nil w)
  have HV := hidden hv
  have HPU : Hid (∀ (w1 : World) (m j : Nat), j < len → RunK w.heap.size m w w1 (stR (xs.take j)) → Calls Try.prog 12 #[.pointer (some ⟨m, 0, none⟩), .int .u32 (xs.getD j 0 : Nat)] w1 fun e w' => e = .returned (.int .i64 0) ∧ Hid (RunK w.heap.size m w w' (stR (xs.take (j + 1))))) := fun w1 m j hj r => by
    have hjl : (xs.take j).length = j := by simp; omega
    have := RunK.push r (stR_ok (xs.take j) (by omega)) (xs.getD j 0) (hv.bd _ (by rw [List.getD_eq_getElem?_getD]; simp [show j < xs.length by omega]))
    rw [stR_pushE _ (by omega), stR_push _ _ (by omega)] at this
    have e : xs.take j ++ [xs.getD j 0] = xs.take (j + 1) := by
      rw [List.take_succ_eq_append_getElem (by omega)]
      simp [List.getD_eq_getElem?_getD, show j < xs.length by omega]
    rw [e] at this
    exact this
  have HLV : Hid (∀ w1 m s gs, RunG w.heap.size m w w1 s gs → Calls Try.prog 7 #[] w1 fun e w' => e = .returned (.bool true) ∧ Below w.heap.size w w') := fun w1 m s gs r => (live_any w1).mono (fun e w' hh => ⟨hh.1, by
    obtain ⟨_, _, hb, hB, _⟩ := r
    exact hb.trans (hh.2.mono hB)⟩)
  have HBY : Hid (∀ w1 m s gs, RunG w.heap.size m w w1 s gs → OkK s → Calls Try.prog 13 #[.pointer (some ⟨m, 0, none⟩)] w1 fun e w' => ∃ a' l' c' gs', e = .returned (.slice a' l' c') ∧ Hid (RowIn w' a' l' c' s.bs gs') ∧ Hid (RunG w.heap.size m w w' s gs') ∧ Hid (∀ a2 l2 c2 zs2, RowIn w1 a2 l2 c2 zs2 gs → RowIn w' a2 l2 c2 zs2 gs')) := fun w1 m s gs r ok => (RunG.bytes r ok).mono (fun e w' hh => by
    obtain ⟨a', c', gs', he, h1, h2, h3, h4⟩ := hh
    exact ⟨a', _, c', gs', he, h1, h2, fun a2 l2 c2 zs2 h5 => (h5.kept h4).wide h3⟩)
  have HRO : Hid (∀ (w1 : World) (m : Nat) (s s' : Ks) (gs : List Nat) (q : Nat), q < 4294967296 → RunG w.heap.size m w w1 s gs → OkK s → rollE s n = 0 → rollS s n q = s' → Calls Try.prog 14 #[.pointer (some ⟨m, 0, none⟩), .int .u32 n, .int .u32 q] w1 fun e w' => e = .returned (.int .i64 0) ∧ Hid (RunG w.heap.size m w w' s' gs) ∧ Hid (∀ a2 l2 c2 zs2, RowIn w1 a2 l2 c2 zs2 gs → RowIn w' a2 l2 c2 zs2 gs)) := fun w1 m s s' gs q hq r ok h0 hs => by
    have := RunG.roll r ok n q hn hq
    rw [h0, hs] at this
    exact this.mono (fun e w' hh => ⟨hh.1, hh.2.1, fun a2 l2 c2 zs2 h5 => h5.kept hh.2.2⟩)
  have HSE : Hid (∀ (w1 : World) (a1 : Option Addr) (l1 c1 : Nat) (a2 : Option Addr) (l2 c2 : Nat) (zs : List Int) (gs gs2 : List Nat), OkB zs → RowIn w1 a1 l1 c1 zs gs → RowIn w1 a2 l2 c2 zs gs2 → Calls Try.prog 15 #[.slice a1 l1 c1, .slice a2 l2 c2] w1 fun e w' => e = .returned (.bool true) ∧ w' = w1) := fun w1 a1 l1 c1 a2 l2 c2 zs gs gs2 ho h1 h2 => same_eq a1 a2 l1 c1 l2 c2 zs w1 ho h1.1 h2.1
  have HSS : Hid (∀ (w1 : World) (a1 : Option Addr) (l1 c1 : Nat) (a2 : Option Addr) (l2 c2 : Nat) (zs ys : List Int) (gs gs2 : List Nat), OkB zs → OkB ys → zs ≠ ys → RowIn w1 a1 l1 c1 zs gs → RowIn w1 a2 l2 c2 ys gs2 → Calls Try.prog 15 #[.slice a1 l1 c1, .slice a2 l2 c2] w1 fun e w' => e = .returned (.bool false) ∧ w' = w1) := fun w1 a1 l1 c1 a2 l2 c2 zs ys gs gs2 ho hy hne h1 h2 => same_ne a1 a2 l1 c1 l2 c2 zs ys w1 ho hy h1.1 h2.1 hne
  have hok := hidden (stR_ok xs (by omega))
  go_enter Try.func4, Try.ntmps4
  go_wp2_with (first | (go_at_call 11; refine HBG.out.mono ?_; rintro e w1 ⟨m, rfl, r1⟩; have R1 := hidden r1; clear r1))
  go_loopw [8] (fun i wr => ∃ j : Nat, j ≤ len ∧ i = .int .i64 j ∧ Hid (RunK w.heap.size m w wr (stR (xs.take j)))) (fun i _ => len - (intOf i).toNat)
  case atStart => exact ⟨0, by omega, rfl, by rw [List.take_zero, stR_nil]; exact R1⟩
  case round =>
    clear R1
    obtain ⟨j, hj, rfl, RK⟩ := hrel
    by_cases hlt : j < len
    · have d1 : (j : Int) < (len : Int) := by omega
      have HP := hidden (HPU.out wr m j hlt RK.out)
      obtain ⟨b, o, rfl, hcell⟩ := HV.out.cells j hlt
      have hcl : wr.cell? ⟨b, o + j, none⟩ = some (.int .u32 (xs.getD j 0 : Nat)) := by
        obtain ⟨_, _, hb, _⟩ := RK.out
        exact cellLater hb hcell
      generalize xs.getD j 0 = x at *
      clear hcell HPU HLV HBY HRO HSE HSS HV hxl hv
      go_wp2_with (first | (go_at_call 12; refine HP.out.mono ?_; rintro e w2 ⟨rfl, r2⟩) | (go_at_call 10; refine (num10 _ _).mono ?_; rintro e wn ⟨rfl, rfl⟩))
      go_roundw
      case rel => exact ⟨j + 1, by omega, int_eq (by omega), r2⟩
      case measure => simp [intOf]; omega
    · obtain rfl : j = len := by omega
      have d1 : ¬ (j : Int) < (j : Int) := by omega
      rw [List.take_of_length_le (by omega)] at RK
      have RG := hidden (RunG.of RK.out)
      clear HPU RK
      obtain ⟨S1, S2, S3, RF⟩ := rollF_of xs n k (by omega) (by omega) hk
      obtain ⟨f1, f2, f3, f4, f5, f6, f7, f8, f9, f10, f11⟩ := RF
      have hqb : (4294967296 - k) % 4294967296 < 4294967296 := Nat.mod_lt _ (by omega)
      have HB1 := hidden fun w1 m gs (r : RunG w.heap.size m w w1 (stR xs) gs) => HBY.out w1 m _ gs r hok.out
      have HB2 := hidden fun w1 m gs (r : RunG w.heap.size m w w1 S2 gs) => HBY.out w1 m _ gs r f2
      have HB3 := hidden fun w1 m gs (r : RunG w.heap.size m w w1 S3 gs) => HBY.out w1 m _ gs r f3
      have HR1 := hidden fun w1 m gs (r : RunG w.heap.size m w w1 (stR xs) gs) => HRO.out w1 m _ S1 gs k hk r hok.out f4 f5
      have HR2 := hidden fun w1 m gs (r : RunG w.heap.size m w w1 S1 gs) => HRO.out w1 m _ S2 gs _ hqb r f1 f6 f7
      have HR3 := hidden fun w1 m gs (r : RunG w.heap.size m w w1 S2 gs) => HRO.out w1 m _ S3 gs n hn r f2 f8 f9
      have HX2 := hidden fun (hne : S2.bs ≠ (stR xs).bs) (w1 : World) (a1 : Option Addr) (l1 c1 : Nat) (a2 : Option Addr) (l2 c2 : Nat) (gs gs2 : List Nat) (q1 : RowIn w1 a1 l1 c1 S2.bs gs) (q2 : RowIn w1 a2 l2 c2 (stR xs).bs gs2) => HSS.out w1 a1 l1 c1 a2 l2 c2 _ _ gs gs2 f2.okb hok.out.okb hne q1 q2
      have HX3 := hidden fun (heq : S2.bs = (stR xs).bs) (w1 : World) (a1 : Option Addr) (l1 c1 : Nat) (a2 : Option Addr) (l2 c2 : Nat) (gs gs2 : List Nat) (q1 : RowIn w1 a1 l1 c1 S2.bs gs) (q2 : RowIn w1 a2 l2 c2 (stR xs).bs gs2) => HSE.out w1 a1 l1 c1 a2 l2 c2 _ gs gs2 hok.out.okb (heq ▸ q1) q2
      have HPV : Hid (n ≠ 0 → peekE S1 0 = 0 ∧ peekV S1 0 = xs.getD (xs.length - 1 - rollR n k) 0) := fun h0 => by
        obtain ⟨_, _, g3, g4⟩ := stR_roll xs n k (by omega) (by omega) HV.out.bd (by omega)
        rw [f5] at g3 g4
        exact ⟨g3, g4⟩
      have HPK : Hid (∀ w1 m gs, RunG w.heap.size m w w1 S1 gs → Calls Try.prog 16 #[.pointer (some ⟨m, 0, none⟩), .int .u32 0] w1 fun e w' => e = .returned (.tuple #[.int .u32 (peekV S1 0), .int .i64 (peekE S1 0)]) ∧ Hid (RunG w.heap.size m w w' S1 gs) ∧ Hid (∀ a2 l2 c2 zs2, RowIn w1 a2 l2 c2 zs2 gs → RowIn w' a2 l2 c2 zs2 gs)) := fun w1 m gs r => (RunG.peek r f1 0 (by omega)).mono (fun e w' hh => ⟨hh.1, hh.2.1, fun a2 l2 c2 zs2 h5 => h5.kept hh.2.2⟩)
      have hq : IntKind.u32.wrap (-(k : Int)) = (((4294967296 - k) % 4294967296 : Nat) : Int) := by rw [IntKind.wrap_u32]; omega
      have hw1 : IntKind.u64.wrap (n : Int) = (n : Int) := by rw [IntKind.wrap_u64]; omega
      have hw2 : IntKind.u64.wrap (j : Int) = (j : Int) := by rw [IntKind.wrap_u64]; omega
      have dn : ¬ (n : Int) > (j : Int) := by omega
      have HF10 := hidden f10
      have HF11 := hidden f11
      have hkk : ((k : Int) == 2147483648) = decide (k = 2147483648) := by
        by_cases e : k = 2147483648
        · subst e; rfl
        · rw [decide_eq_false e, beq_eq_false_iff_ne]; omega
      have HIN := hidden fun wx => rint_any k wx hk
      have HRE := hidden (tmod_fix (wrap32 (k : Int)) n)
      have HRM := hidden (roll_emod n k)
      have HRL := hidden (rollR_lt n k)
      clear f1 f2 f3 f4 f5 f6 f7 f8 f9 f10 f11 HBY HRO HSS hqb
      generalize hQ : (((4294967296 - k) % 4294967296 : Nat) : Int) = Q at *
      generalize wrap32 (k : Int) = WK at *
      have dn0 : (n : Int) > 0 := by omega
      obtain ⟨pe, pv⟩ := HPV.out hn0
      have hrl := HRL.out (by omega)
      have hre := HRE.out (by omega)
      rw [HRM.out (by omega)] at hre
      rw [pe, pv] at HPK
      have HCW : Hid (∀ w1 m gs, RunG w.heap.size m w w1 S1 gs → ∃ b o, a = some ⟨b, o, none⟩ ∧ w1.cell? ⟨b, o + (xs.length - 1 - rollR n k), none⟩ = some (.int .u32 (xs.getD (xs.length - 1 - rollR n k) 0 : Nat))) := fun w1 m gs r => by
        obtain ⟨b, o, e, hcl⟩ := HV.out.cells (xs.length - 1 - rollR n k) (by omega)
        obtain ⟨_, _, hb, _⟩ := r
        exact ⟨b, o, e, cellLater hb hcl⟩
      obtain ⟨b, o, rfl, _⟩ := HV.out.cells (xs.length - 1 - rollR n k) (by omega)
      have HCW : Hid (∀ w1 m gs, RunG w.heap.size m w w1 S1 gs → w1.cell? ⟨b, o + (xs.length - 1 - rollR n k), none⟩ = some (.int .u32 (xs.getD (xs.length - 1 - rollR n k) 0 : Nat))) := fun w1 m gs r => by
        obtain ⟨b', o', e, hcl⟩ := HCW.out w1 m gs r
        cases e
        exact hcl
      generalize xs.getD (xs.length - 1 - rollR n k) 0 = XV at *
      have hti := Int.lt_tmod_of_pos WK (show (0 : Int) < (n : Int) by omega)
      have hti2 := Int.tmod_lt_of_pos WK (show (0 : Int) < (n : Int) by omega)
      rw [hxl] at HCW
      have hz : ¬ (n : Int) = 0 := by omega
      have hz2 : ((n : Int) == 0) = false := by simpa using hz
      generalize rollR n k = r at *
      have hx1 : IntKind.i64.wrap (WK.tmod (n : Int)) = WK.tmod (n : Int) := by rw [IntKind.wrap_i64]; omega
      have hx2 : IntKind.i64.wrap (WK.tmod (n : Int) + (n : Int)) = WK.tmod (n : Int) + (n : Int) := by rw [IntKind.wrap_i64]; omega
      have hy2 : wrap64 (WK.tmod (n : Int) + (n : Int)) = WK.tmod (n : Int) + (n : Int) := by unfold wrap64; omega
      have hy5 : wrap64 ((j : Int) - 1 - (r : Int)) = (j : Int) - 1 - (r : Int) := by unfold wrap64; omega
      have hx3 : IntKind.i64.wrap (r : Int) = (r : Int) := by rw [IntKind.wrap_i64]; omega
      have hx4 : IntKind.i64.wrap ((j : Int) - 1) = (j : Int) - 1 := by rw [IntKind.wrap_i64]; omega
      have hx5 : IntKind.i64.wrap ((j : Int) - 1 - (r : Int)) = (j : Int) - 1 - (r : Int) := by rw [IntKind.wrap_i64]; omega
      have hx6 : IntKind.i64.wrap (n : Int) = (n : Int) := by rw [IntKind.wrap_i64]; omega
      have hx7 : ((j : Int) - 1 - (r : Int)).toNat = j - 1 - r := by omega
      have hx8 : (0 : Int) ≤ (j : Int) - 1 - (r : Int) := by omega
      have hx9 : (j : Int) - 1 - (r : Int) < (j : Int) := by omega
      clear HPV HRE HRM HRL HV hti hti2 pe pv hrl hx7
      have kx1 : ((k : Int) == 2147483648) = false := by rw [hkk]; simp [hkx]
      have kx2 : ¬ (k : Int) = 2147483648 := by omega
      have HS2 := hidden fun (w1 : World) (a1 : Option Addr) (l1 c1 : Nat) (a2 : Option Addr) (l2 c2 : Nat) (gs gs2 : List Nat) (q1 : RowIn w1 a1 l1 c1 S2.bs gs) (q2 : RowIn w1 a2 l2 c2 (stR xs).bs gs2) => HSE.out w1 a1 l1 c1 a2 l2 c2 _ gs gs2 hok.out.okb (HF10.out hkx ▸ q1) q2
      have HS3 := hidden fun (w1 : World) (a1 : Option Addr) (l1 c1 : Nat) (a2 : Option Addr) (l2 c2 : Nat) (gs gs2 : List Nat) (q1 : RowIn w1 a1 l1 c1 S3.bs gs) (q2 : RowIn w1 a2 l2 c2 (stR xs).bs gs2) => HSE.out w1 a1 l1 c1 a2 l2 c2 _ gs gs2 hok.out.okb (HF11.out hkx ▸ q1) q2
      clear hkk hkx HF10 HF11 HX2 HX3
      generalize hK : (k : Int) = K at *
      clear hK hQ
      go_wp2_with (first | (go_at_call 10; refine (num10 _ _).mono ?_; rintro e wn ⟨rfl, rfl⟩) | (go_at_call_of 14 (Value.int IntKind.u32 K); (with_reducible refine (HR1.out _ _ _ r2.out).mono ?_); rintro e w3 ⟨rfl, r3, t3⟩; have RW3 := hidden (t3.out _ _ _ _ RW2.out)) | (go_at_call_of 14 (Value.int IntKind.u32 Q); (with_reducible refine (HR2.out _ _ _ r4.out).mono ?_); rintro e w5 ⟨rfl, r5, t5⟩; have RW5 := hidden (t5.out _ _ _ _ RW4.out)) | (go_at_call 14; (with_reducible refine (HR3.out _ _ _ r6.out).mono ?_); rintro e w7 ⟨rfl, r7, t7⟩; have RW7 := hidden (t7.out _ _ _ _ RW6.out)) | (go_at_call 16; (with_reducible refine (HPK.out _ _ _ r3.out).mono ?_); rintro e w4 ⟨rfl, r4, t4⟩; have RW4 := hidden (t4.out _ _ _ _ RW3.out); have hcw := HCW.out _ _ _ r4.out) | (go_at_call 17; (with_reducible refine (HIN.out _).mono ?_); rintro e wi ⟨rfl, rfl⟩) | (go_at_call 13; (with_reducible refine (HB3.out _ _ _ r7.out).mono ?_); rintro e w8 ⟨a8, l8, c8, gs8, rfl, q8, r8, t8⟩; have RW8 := hidden (t8.out _ _ _ _ RW7.out)) | (go_at_call 13; (with_reducible refine (HB2.out _ _ _ r5.out).mono ?_); rintro e w6 ⟨a6, l6, c6, gs6, rfl, q6, r6, t6⟩; have RW6 := hidden (t6.out _ _ _ _ RW5.out)) | (go_at_call 13; (with_reducible refine (HB1.out _ _ _ RG.out).mono ?_); rintro e w2 ⟨a2, l2, c2, gs2, rfl, RW2, r2, t2⟩) | (go_at_call 15; (with_reducible refine (HS3.out _ _ _ _ _ _ _ _ _ q8.out RW8.out).mono ?_); rintro e ws ⟨rfl, rfl⟩) | (go_at_call 15; (with_reducible refine (HS2.out _ _ _ _ _ _ _ _ _ q6.out RW6.out).mono ?_); rintro e ws ⟨rfl, rfl⟩) | (go_at_call 7; (with_reducible refine (HLV.out _ _ _ _ r8.out).mono ?_); rintro e wl ⟨rfl, hbl⟩))
      all_goals go_ret
      all_goals exact ⟨rfl, hbl⟩
end Go.Proofs.Ythhnloabbmllhaa
