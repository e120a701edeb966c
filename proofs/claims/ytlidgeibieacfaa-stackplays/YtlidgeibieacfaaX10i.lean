/- grottolaw10's alike; the walk of StackPlays: any acts in both stacks are alike. -/
import Derived.Test.YtlidgeibieacfaaX10k
namespace Go.Proofs.Ytlidgeibieacfaa
open Go.RowKit
set_option maxHeartbeats 1000000
set_option maxRecDepth 100000
set_option linter.unusedVariables false

theorem spoil_nil (w : World) : Calls Try.prog 10 #[.slice none 0 0] w fun e w' => e = .returned (.tuple #[]) ∧ w' = w := by
  go_enter Try.func10, Try.ntmps10
  go_wp2
  go_loopw [2] (fun i w' => i = .int .i64 0 ∧ w' = w) (fun _ _ => 0)
  case atStart => exact ⟨rfl, rfl⟩
  case round =>
    obtain ⟨rfl, rfl⟩ := hrel
    go_wp2
    refine bodyPost_end (v := .tuple #[]) (by simp [results, Try.results10, go_sem]) rfl ⟨rfl, rfl⟩
theorem alike_any (B m d : Nat) (s : Ks) (w0 w : World) (gs : List Nat) (T : Two B m d w0 w s s gs) (ok : OkK s) :
    Calls Try.prog 9 #[.pointer (some ⟨m, 0, none⟩), .pointer (some ⟨d, 0, none⟩)] w fun e w' => e = .returned (.bool true) ∧ Below w.heap.size w w' := by
  obtain ⟨ua, uc, lk⟩ := look_any T ok
  obtain ⟨hl, hfr⟩ := fr_bd ok
  have HFR := hidden (lk.fr w (Below.refl _ _))
  have HBY := hidden lk.bytes
  have HSA := hidden lk.same
  have HTO := hidden lk.top
  have HCO := hidden fun wx hb => look_count T ok wx hb
  have HVA := hidden fun wx hb => look_vals T ok wx hb
  have HC := hidden lk.cells
  have HB0 : Hid (Below w.heap.size w w.drew) := (Below.refl _ _).drew
  obtain ⟨k0, k2, k3⟩ := HC.out w (Below.refl _ _)
  clear T ok lk
  generalize s.bs.length = L at *
  generalize s.fr = Fr at *
  generalize s.on = on at *
  generalize countV s = N at *
  have wF : IntKind.i64.wrap (Fr : Int) = (Fr : Int) := by rw [IntKind.wrap_i64]; omega
  have wL : IntKind.i64.wrap (L : Int) = (L : Int) := by rw [IntKind.wrap_i64]; omega
  cases on with
  | false =>
    go_enter Try.func9, Try.ntmps9
    go_wp2_with (first | (go_at_call 42; refine HFR.out.mono ?_; rintro e wf ⟨rfl, ef⟩; rw [ef]; clear ef))
    go_region_held3 (fun w' => w'.cell? ⟨d, 0, none⟩ = some (.slice ua L uc) ∧ w'.cell? ⟨d, 2, none⟩ = some (.int .i64 Fr) ∧ w'.cell? ⟨d, 3, none⟩ = some (.bool false)) (first | assumption | exact ⟨by assumption, by assumption, by assumption⟩ | go_keep) (first
      | (go_at_call 11; refine (HBY.out _ HB0.out).mono ?_; rintro e w1 ⟨a1, c1, rfl, HR1, hb1⟩; have HB1 := hidden hb1; obtain ⟨t10, t12, t13⟩ := HC.out _ hb1; clear hb1)
      | (go_at_call 43; refine (HSA.out _ _ _ HB1.out HR1.out).mono ?_; rintro e w2 ⟨rfl, hb2⟩; have HB2 := hidden hb2; obtain ⟨t20, t22, t23⟩ := HC.out _ hb2; clear hb2)
      | (go_at_call 14; refine (HTO.out _ HB2.out).mono ?_; rintro e w3 ⟨rfl, hb3⟩; have HB3 := hidden hb3; obtain ⟨t30, t32, t33⟩ := HC.out _ hb3; clear hb3)
      | (go_at_call 20; refine (HCO.out _ HB3.out).mono ?_; rintro e w4 ⟨rfl, hb4⟩; have HB4 := hidden hb4; obtain ⟨t40, t42, t43⟩ := HC.out _ hb4; clear hb4)
      | (go_at_call 44; refine (HVA.out _ HB4.out).mono ?_; rintro e w5 ⟨a5, c5, rfl, hb5⟩; have HB5 := hidden hb5; obtain ⟨t50, t52, t53⟩ := HC.out _ hb5; clear hb5)
      | fail)
    go_wp2
    go_ret
    exact ⟨rfl, HB5.out⟩
  | true =>
    go_enter Try.func9, Try.ntmps9
    go_wp2_with (first | (go_at_call 42; refine HFR.out.mono ?_; rintro e wf ⟨rfl, ef⟩; rw [ef]; clear ef))
    go_region_held3 (fun w' => w'.cell? ⟨d, 0, none⟩ = some (.slice ua L uc) ∧ w'.cell? ⟨d, 2, none⟩ = some (.int .i64 Fr) ∧ w'.cell? ⟨d, 3, none⟩ = some (.bool true)) (first | assumption | exact ⟨by assumption, by assumption, by assumption⟩ | go_keep) (first
      | (go_at_call 11; refine (HBY.out _ HB0.out).mono ?_; rintro e w1 ⟨a1, c1, rfl, HR1, hb1⟩; have HB1 := hidden hb1; obtain ⟨t10, t12, t13⟩ := HC.out _ hb1; clear hb1)
      | (go_at_call 43; refine (HSA.out _ _ _ HB1.out HR1.out).mono ?_; rintro e w2 ⟨rfl, hb2⟩; have HB2 := hidden hb2; obtain ⟨t20, t22, t23⟩ := HC.out _ hb2; clear hb2)
      | (go_at_call 14; refine (HTO.out _ HB2.out).mono ?_; rintro e w3 ⟨rfl, hb3⟩; have HB3 := hidden hb3; obtain ⟨t30, t32, t33⟩ := HC.out _ hb3; clear hb3)
      | (go_at_call 20; refine (HCO.out _ HB3.out).mono ?_; rintro e w4 ⟨rfl, hb4⟩; have HB4 := hidden hb4; obtain ⟨t40, t42, t43⟩ := HC.out _ hb4; clear hb4)
      | (go_at_call 44; refine (HVA.out _ HB4.out).mono ?_; rintro e w5 ⟨a5, c5, rfl, hb5⟩; have HB5 := hidden hb5; obtain ⟨t50, t52, t53⟩ := HC.out _ hb5; clear hb5)
      | fail)
    go_wp2
    go_ret
    exact ⟨rfl, HB5.out⟩
theorem Two.bytesO {B m d : Nat} {s : Ks} {w0 w : World} (T : Two B m d w0 w s s []) (ok : OkK s) :
    Calls Try.prog 11 #[.pointer (some ⟨m, 0, none⟩)] w fun e w' => ∃ a' c', e = .returned (.slice a' s.bs.length c') ∧ Hid (Calls Try.prog 10 #[.slice a' s.bs.length c'] w' fun e2 w2 => e2 = .returned (.tuple #[]) ∧ Hid (Two B m d w0 w2 s s [])) := by
  have T' := T
  have hl := (fr_bd ok).1
  obtain ⟨v, u, h1, h2, _, _, hBw, _⟩ := T
  refine (kBytes_any B m v s w h1 (by omega)).mono ?_
  rintro e w' ⟨a', c', rfl, ho, hb⟩
  refine ⟨a', c', rfl, ?_⟩
  rcases ho.2 with ⟨h4, h5⟩ | ⟨g, cap, cur, h4, h6, h7, _⟩
  · simp only [Value.slice.injEq] at h4
    obtain ⟨rfl, _, rfl⟩ := h4
    rw [h5]
    refine (spoil_nil w').mono ?_
    rintro e2 w2 ⟨rfl, rfl⟩
    exact ⟨rfl, (T'.later hb).1⟩
  · simp only [Value.slice.injEq] at h4
    obtain ⟨rfl, _, rfl⟩ := h4
    refine (spoil_fm g s.bs.length c' w.heap.size s.bs w' ho (by omega)).mono ?_
    rintro e2 w2 ⟨rfl, f⟩
    have hgl := ho.lt g rfl
    exact ⟨rfl, ((T'.fresh hb g hgl.1 hgl.2).spoil List.mem_cons_self (by omega) f).less (by simp)⟩
theorem stackPlays_walk (z : Int) (ao : Option Addr) (len cap : Nat) (rs : List Ac) (w : World) (hz : (Lit.int .i64 z).wf = true) (hA : IsActs w ao len cap rs) :
    Calls Try.prog 3 #[.int .i64 z, .slice ao len cap] w fun e w' => e = .returned (.bool true) ∧ Below w.heap.size w w' := by
  have HLV : Hid (∀ w1, Below w.heap.size w w1 → Calls Try.prog 5 #[] w1 fun e w' => e = .returned (.bool true) ∧ Below w.heap.size w w') := fun w1 hb => (live_any w1).mono (fun e w' hh => ⟨hh.1, hb.trans (hh.2.mono hb.size)⟩)
  have HH := hidden (huge_any ao len cap rs w hA)
  have hzb := bounds_i64 hz
  clear hz
  cases hu : hugeB rs with
  | true =>
    rw [hu] at HH
    clear hA hu
    go_enter Try.func3, Try.ntmps3
    go_wp2_with (first | (go_at_call 4; refine HH.out.mono ?_; rintro e wh ⟨rfl, hbh⟩; have HBH := hidden hbh; clear hbh) | (go_at_call 5; refine (HLV.out _ HBH.out).mono ?_; rintro e wl ⟨rfl, hbl⟩))
    go_ret
    exact ⟨rfl, hbl⟩
  | false =>
  rw [hu] at HH
  by_cases hm : 8192 < z ∧ z ≤ 65536
  · obtain ⟨hm1, hm2⟩ := hm
    clear hA hu
    go_enter Try.func3, Try.ntmps3
    go_wp2_with (first | (go_at_call 4; refine HH.out.mono ?_; rintro e wh ⟨rfl, hbh⟩; have HBH := hidden hbh; clear hbh) | (go_at_call 5; refine (HLV.out _ HBH.out).mono ?_; rintro e wl ⟨rfl, hbl⟩))
    go_ret
    exact ⟨rfl, hbl⟩
  by_cases hlow : z < 1
  · have HNB := hidden (fun wx => knew_bad z wx (Or.inl hlow))
    have d1 : ¬ (8192 : Int) < z := by omega
    clear hA hu hm
    go_enter Try.func3, Try.ntmps3
    go_wp2_with (first | (go_at_call 4; refine HH.out.mono ?_; rintro e wh ⟨rfl, hbh⟩; have HBH := hidden hbh; clear hbh) | (go_at_call 6; refine (HNB.out _).mono ?_; rintro e w1 ⟨rfl, e1⟩; rw [e1]; clear e1) | (go_at_call 7; refine (num10 _ _).mono ?_; rintro e w9 ⟨rfl, e9⟩; rw [e9]; clear e9) | (go_at_call 5; refine (HLV.out _ HBH.out).mono ?_; rintro e wl ⟨rfl, hbl⟩))
    go_ret
    exact ⟨rfl, hbl⟩
  by_cases hhi : 65536 < z
  · have HNB := hidden (fun wx => knew_bad z wx (Or.inr hhi))
    have d1 : (8192 : Int) < z := by omega
    have d2 : ¬ z ≤ (65536 : Int) := by omega
    clear hA hu hm
    go_enter Try.func3, Try.ntmps3
    go_wp2_with (first | (go_at_call 4; refine HH.out.mono ?_; rintro e wh ⟨rfl, hbh⟩; have HBH := hidden hbh; clear hbh) | (go_at_call 6; refine (HNB.out _).mono ?_; rintro e w1 ⟨rfl, e1⟩; rw [e1]; clear e1) | (go_at_call 7; refine (num10 _ _).mono ?_; rintro e w9 ⟨rfl, e9⟩; rw [e9]; clear e9) | (go_at_call 5; refine (HLV.out _ HBH.out).mono ?_; rintro e wl ⟨rfl, hbl⟩))
    go_ret
    exact ⟨rfl, hbl⟩
  have d1 : ¬ (8192 : Int) < z := by omega
  obtain ⟨n, rfl⟩ := Int.eq_ofNat_of_zero_le (show 0 ≤ z by omega)
  have HA := hidden hA
  obtain ⟨h1, h2, h3, h4, h5⟩ := hA
  have HN := hidden h1
  have H4 := hidden h4
  have H5 := hidden h5
  have HP := hidden (huge_no hu)
  have h3' : len ≤ 9223372036854775807 := by unfold maxLen at h3; omega
  have hn1 : 1 ≤ n := by omega
  have hn2 : n ≤ 8192 := by omega
  have HNW := hidden (fun wh (hb : Below w.heap.size w wh) => RunK.new w.heap.size n w wh hn1 (by omega) hb hb.size)
  have HTN := hidden fun m w1 (r : RunK w.heap.size m w w1 ⟨n, [], 0, false⟩) => Two.new r n
  have HOK := hidden (ok_new n (by omega))
  clear h1 h2 h3 h4 h5 hu hm hlow hhi hzb HA
  go_enter Try.func3, Try.ntmps3
  go_upto_region 6 with (first | (go_at_call 4; refine HH.out.mono ?_; rintro e wh ⟨rfl, hbh⟩; have HBH := hidden hbh; clear hbh) | (go_at_call 6; refine (HNW.out _ HBH.out).mono ?_; rintro e w1 ⟨rfl, r1⟩; have R1 := hidden r1; clear r1))
  have HT := hidden (HTN.out _ _ R1.out)
  go_upto_region 7 with fail
  generalize w1.alloc (.cells #[.slice none 0 0, .int .i64 n, .int .i64 0, .bool false] 33) = w2 at *
  clear HNW HTN R1
  generalize w1.heap.size = d at *
  generalize wh.heap.size = m0 at *
  go_wp2_with (go_at_call 7; refine (num10 _ _).mono ?_; rintro e w9 ⟨rfl, e9⟩; rw [e9]; clear e9)
  go_loopw [5, 8] (fun sp i wr => ∃ (k m : Nat) (s : Ks), k ≤ len ∧ sp = .pointer (some ⟨m, 0, none⟩) ∧ i = .int .i64 k ∧ Hid (Two w.heap.size m d w wr s s []) ∧ Hid (OkK s)) (fun _ i _ => len - (intOf i).toNat)
  case atStart => exact ⟨0, m0, _, by omega, rfl, rfl, HT, HOK⟩
  case round =>
    clear HT HOK
    obtain ⟨k, m, s, hk, rfl, rfl, HT, HO⟩ := hrel
    by_cases hlt : k < len
    · have hkl : k < rs.length := by rw [HN.out]; exact hlt
      have d1 : (k : Int) < (len : Int) := by omega
      obtain ⟨bq, off, rfl, hcell⟩ := H4.out (by omega)
      obtain ⟨c0', c1', c2', c3', c4', c5', c6'⟩ := hcell k hkl
      have HOK := hidden (H5.out rs[k] (List.getElem_mem hkl))
      have hpn := HP.out rs[k] (List.getElem_mem hkl)
      have hbel := HT.out.base
      have c0 := cellLater hbel c0'
      have c1 := cellLater hbel c1'
      have c2 := cellLater hbel c2'
      have c3 := cellLater hbel c3'
      have c4 := cellLater hbel c4'
      have c5 := cellLater hbel c5'
      have c6 := cellLater hbel c6'
      clear hcell c0' c1' c2' c3' c4' c5' c6' hbel
      have HC := hidden (does_any w.heap.size m d s w wr rs[k] (Nat.le_refl _) HT.out HO.out HOK.out hpn)
      generalize rs[k] = r at *
      unfold Ac.val at HC
      have HF : Hid (∀ e w', DoesR w.heap.size m d w w' s r.k e → ∃ m' s', e = .returned (.tuple #[.pointer (some ⟨m', 0, none⟩), .bool true]) ∧ Hid (Two w.heap.size m' d w w' s' s' []) ∧ Hid (OkK s')) := fun e w' ⟨m', s', h1, h2, h3, h4, h5⟩ => ⟨m', s', h1, h2, h3⟩
      clear HT HO HOK hpn
      go_wp2_with (first
        | (go_at_call 8; refine HC.out.mono ?_; intro e w5 hdr; obtain ⟨m', s', rfl, HT2, HO2⟩ := HF.out _ _ hdr; clear hdr)
        | (go_at_call 9; refine (alike_any _ _ _ _ _ _ _ HT2.out HO2.out).mono ?_; rintro e w6 ⟨rfl, hb6⟩; have HT6 := hidden (HT2.out.later hb6).1; clear hb6)
        | (go_at_call 11; refine (HT6.out.bytesO HO2.out).mono ?_; rintro e w7 ⟨a7, c7, rfl, HSP⟩)
        | (go_at_call 10; refine HSP.out.mono ?_; rintro e w8 ⟨rfl, HT8⟩))
      go_roundw
      case rel => exact ⟨k + 1, m', s', by omega, rfl, int_eq (by omega), HT8, HO2⟩
      case measure => simp [intOf]; omega
    · have d1 : ¬ (k : Int) < (len : Int) := by omega
      have HBE := hidden HT.out.base
      go_wp2_with (go_at_call 5; refine (HLV.out _ HBE.out).mono ?_; rintro e wl ⟨rfl, hbl⟩)
      go_ret
      exact ⟨rfl, hbl⟩
end Go.Proofs.Ytlidgeibieacfaa
