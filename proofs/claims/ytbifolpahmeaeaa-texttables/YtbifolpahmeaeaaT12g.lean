/- Layer 12: the walk of TextTables. -/
import Derived.Test.YtbifolpahmeaeaaT12c
import Derived.Test.YtbifolpahmeaeaaT12f
import Derived.Test.YtbifolpahmeaeaaR12l
namespace Go.Proofs.Ytbifolpahmeaeaa
open Go.RowKit
set_option maxHeartbeats 1000000
set_option maxRecDepth 100000
set_option linter.unusedVariables false

theorem copy32 (w : World) (m c0 : Nat) (sa : Option Addr) (ds : List Nat) (hv : VRow w sa m ds) (h0 : sa = none → c0 = 0) (h63 : m ≤ 100000) :
    ∃ a' c' w', (∀ ty, (Builtin.append_ #[23, 23] ty #[.slice (some ⟨w.heap.size, 0, none⟩) 0 0, .slice sa m c0]).run Try.prog (w.alloc (.cells #[] 22)) = .ok (.slice a' m c') w') ∧ w'.ownsRow w.heap.size 22 1 (.slice a' m c') m (u32V ds) ∧ Below w.heap.size w w' := by
  have hba : Below w.heap.size w (w.alloc (.cells #[] 22)) := (Below.refl _ _).alloc (Nat.le_refl _) _
  have hg := heap_alloc_new w (.cells #[] 22)
  have hown : (w.alloc (.cells #[] 22)).ownsRow w.heap.size 22 1 (.slice (some ⟨w.heap.size, 0, none⟩) 0 0) 0 (u32V []) := ⟨rfl, .inr ⟨w.heap.size, 0, #[], rfl, Nat.le_refl _, hg, Nat.le_refl _, by decide, rfl, rfl⟩⟩
  have fin : ∀ {w' : World} {a' : Option Addr} {c' : Nat}, Fm (w.alloc (.cells #[] 22)) w' (fun k => (Value.slice (some ⟨w.heap.size, 0, none⟩) 0 0).ownBlock = some k) (fun k => (Value.slice a' (0 + m) c').ownBlock = some k) → Below w.heap.size w w' := fun f => hba.trans (f.below hba.size (fun k e => by simp only [Value.ownBlock, Option.some.injEq] at e; omega))
  by_cases hm : m = 0
  · subst hm
    have hd : ds = [] := List.length_eq_zero_iff.1 hv.ln
    subst hd
    cases sa with
    | none =>
      have e0 := h0 rfl
      subst e0
      obtain ⟨a', c', w', r, o, f⟩ := app32 w.heap.size 0 0 0 0 (some ⟨w.heap.size, 0, none⟩) none [] [] _ hown (hv.later hba) (fun _ => ⟨rfl, rfl⟩) (by omega) hba.size
      exact ⟨a', c', w', r, o, fin f⟩
    | some x =>
      obtain ⟨i0, hi, hz0, hz1, hz2⟩ := info_parts info32
      refine ⟨some ⟨w.heap.size, 0, none⟩, 0, _, fun ty => run_append_room (P := Try.prog) _ 23 ty 22 i0 Try.underlying23 hi w.heap.size 0 0 #[] hg x 0 c0 [] (by simp) (by simp) (by simp) (by omega) (by simp), ?_, ?_⟩
      · have hs := setRow_heap _ w.heap.size #[] ((#[] : Array Value).toList.take (0 * i0.size) ++ [] ++ (#[] : Array Value).toList.drop (0 * i0.size + ([] : List Value).length)).toArray 22 (0, 0) hg
        exact ⟨rfl, .inr ⟨w.heap.size, 0, _, rfl, Nat.le_refl _, hs, Nat.le_refl _, by decide, by simp, by simp [u32V]⟩⟩
      · exact hba.trans ⟨rfl, rfl, rfl, by simp [World.setRow], fun k hk => setRow_other _ w.heap.size k _ (by omega)⟩
  · obtain ⟨a', c', w', r, o, f⟩ := app32 w.heap.size 0 0 m c0 (some ⟨w.heap.size, 0, none⟩) sa [] ds _ hown (hv.later hba) (fun q => absurd q hm) (by omega) hba.size
    have fb := fin f
    rw [Nat.zero_add] at r o
    exact ⟨a', c', w', r, o, fb⟩
theorem wpList_copy32 {w0 : World} {ops : Array Oper} {rest : List Oper} {o : Oper} {a : Act} {Q : Exit → Act → World → Prop} (hgd : o.guard = none) (s x : Operand)
    (ho : o.op = .call { callee := .builtin .append, args := #[s, x], argTypes := #[23, 23] })
    (m c0 : Nat) (sa : Option Addr) (ds : List Nat) (hs : a.eval s = .slice (some ⟨w0.heap.size, 0, none⟩) 0 0) (hx : a.eval x = .slice sa m c0) (hv : VRow w0 sa m ds) (h0 : sa = none → c0 = 0) (h63 : m ≤ 100000)
    (h : ∀ a' c' w', Hid (VRow w' a' m ds) → m ≤ c' → c' ≤ 9223372036854775807 → Hid (Below w0.heap.size w0 w') → wpList Try.prog ops Q rest (a.put o.dst (.slice a' m c')) w') : wpList Try.prog ops Q (o :: rest) a (w0.alloc (.cells #[] 22)) := by
  refine wpList_plain hgd fun K hK => ?_
  obtain ⟨a', c', w', hrun, h1, h2⟩ := copy32 w0 m c0 sa ds hv h0 h63
  unfold Oper.wp
  simp [execOp, ho, resolve, invoke, builtin, hs, hx, hrun, Result.andThen]
  have hcap : m ≤ c' ∧ c' ≤ 9223372036854775807 := by
    rcases h1.2 with ⟨e, e2⟩ | ⟨g, cap, cur, e, _, _, q1, q2, _⟩
    · simp only [Value.slice.injEq] at e
      obtain ⟨_, _, rfl⟩ := e
      omega
    · simp only [Value.slice.injEq] at e
      obtain ⟨_, _, rfl⟩ := e
      simp only [maxLen] at q2
      exact ⟨q1, by omega⟩
  exact hK _ _ (h a' c' w' (own32_v h1 hv.bd) hcap.1 hcap.2 h2)
theorem same12 (a1 a2 : Option Addr) (n1 n2 c1 c2 : Nat) (zs : List Int) (w : World) (h1 : Reads w a1 n1 c1 zs) (h2 : Reads w a2 n2 c2 zs) (hok : OkB zs) :
    Calls Try.prog 11 #[.slice a1 n1 c1, .slice a2 n2 c2] w fun e w' => e = .returned (.bool true) ∧ w' = w := by
  have e1 := conv_reads w a1 n1 c1 zs hok h1
  have e2 := conv_reads w a2 n2 c2 zs hok h2
  clear h1 h2
  generalize (strB zs).toArray = SS at *
  go_enter Try.func11, Try.ntmps11
  go_wp2
  go_ret
  exact ⟨by simp, rfl⟩
theorem tb_any2 {w w' : World} {T : Nat} {A : List Nat} {r : Ending} (h : TbRet w T A r w') : ∃ sa m c, r = .returned (.tuple #[.slice sa m c, .int .i64 (plE A : Nat)]) ∧ Reads w' sa m c (if plE A = 0 then tbL T A else []) ∧ Below w.heap.size w w' := by
  rcases h with ⟨hb, ⟨h0, e⟩ | ⟨h0, g, c, e, hr⟩⟩
  · rw [if_neg h0]
    exact ⟨none, 0, 0, e, ⟨rfl, Nat.le_refl _, .inl ⟨rfl, rfl, rfl⟩⟩, hb⟩
  · rw [if_pos h0]
    exact ⟨_, _, c, by rw [h0]; exact e, hr, hb⟩
theorem pk_any2 {w w' : World} {A l : List Nat} {r : Ending} (h : PkRet w A l r w') : ∃ sa m c, r = .returned (.tuple #[.slice sa m c, .int .i64 (pkE A l : Nat)]) ∧ Reads w' sa m c (if pkE A l = 0 then pkL A l else []) ∧ Below w.heap.size w w' := by
  rcases h with ⟨hb, ⟨h0, e⟩ | ⟨h0, g, c, e, _, hr⟩⟩
  · rw [if_neg h0]
    exact ⟨none, 0, 0, e, ⟨rfl, Nat.le_refl _, .inl ⟨rfl, rfl, rfl⟩⟩, hb⟩
  · rw [if_pos h0]
    exact ⟨_, _, c, by rw [h0]; exact e, hr, hb⟩
set_option maxHeartbeats 16000000 in
theorem tables_main (T : Nat) (al : Option Addr) (nl lc : Nat) (A : List Nat) (bl : Option Addr) (ml mc : Nat) (l : List Nat) (w : World)
    (hv : VRow w al nl A) (hv2 : VRow w bl ml l) (hT : T < 4294967296) (hnl : nl ≤ 300) (hml : ml ≤ 300) (hlc : nl ≤ lc) (hlm : lc ≤ 9223372036854775807) (hz1 : al = none → lc = 0) (hz2 : bl = none → mc = 0) :
    Calls Try.prog 3 #[.int .u32 T, .slice al nl lc, .slice bl ml mc] w fun e w' => e = .returned (.bool true) ∧ Below w.heap.size w w' := by
  have HLV : Hid (∀ w1, Below w.heap.size w w1 → Calls Try.prog 6 #[] w1 fun e w' => e = .returned (.bool true) ∧ Below w.heap.size w w') := fun w1 hb => (live_any w1).mono (fun e w' hh => ⟨hh.1, hb.trans (hh.2.mono hb.size)⟩)
  have g2 : ¬ (300 : Int) < (nl : Int) := by omega
  have g3 : ¬ (300 : Int) < (ml : Int) := by omega
  have HOT : Hid (OkB (if plE A = 0 then tbL T A else [])) := hidden (by split; · exact ok_tb T A
                                                                         · intro c hc; simp at hc)
  have HOP : Hid (OkB (if pkE A l = 0 then pkL A l else [])) := hidden (by split; · exact ok_pk A l
                                                                           · intro c hc; simp at hc)
  have HT1 : Hid (∀ (w1 : World) (a : Option Addr) (c : Nat), VRow w1 a nl A → nl ≤ c → c ≤ 9223372036854775807 → Calls Try.prog 7 #[.int .u32 T, .slice a nl c] w1 fun r w' => ∃ sa m c, r = .returned (.tuple #[.slice sa m c, .int .i64 (plE A : Nat)]) ∧ Hid (Reads w' sa m c (if plE A = 0 then tbL T A else [])) ∧ Hid (Below w1.heap.size w1 w')) := hidden (fun w1 a c h1 h2 h3 => (ttable_all T a nl c A w1 h1 h2 h3 (by omega) hT).mono (fun r w' hh => tb_any2 hh))
  have HT2 : Hid (∀ (w1 : World), VRow w1 al nl A → Calls Try.prog 8 #[.int .u32 T, .slice al nl lc] w1 fun r w' => ∃ sa m c, r = .returned (.tuple #[.slice sa m c, .int .i64 (plE A : Nat)]) ∧ Hid (Reads w' sa m c (if plE A = 0 then tbL T A else [])) ∧ Hid (Below w1.heap.size w1 w')) := hidden (fun w1 h1 => (rtable_any T al nl lc A w1 h1 hlc hlm (by omega) hT).mono (fun r w' hh => tb_any2 hh))
  have HP1 : Hid (∀ (w1 : World) (a b : Option Addr) (c d : Nat), VRow w1 a nl A → VRow w1 b ml l → Calls Try.prog 9 #[.slice a nl c, .slice b ml d] w1 fun r w' => ∃ sa m c, r = .returned (.tuple #[.slice sa m c, .int .i64 (pkE A l : Nat)]) ∧ Hid (Reads w' sa m c (if pkE A l = 0 then pkL A l else [])) ∧ Hid (Below w1.heap.size w1 w')) := hidden (fun w1 a b c d h1 h2 => (tpack_all a b nl ml c d A l w1 h1 h2 (by omega) (by omega)).mono (fun r w' hh => pk_any2 hh))
  have HP2 : Hid (∀ (w1 : World), VRow w1 al nl A → VRow w1 bl ml l → Calls Try.prog 10 #[.slice al nl lc, .slice bl ml mc] w1 fun r w' => ∃ sa m c, r = .returned (.tuple #[.slice sa m c, .int .i64 (pkE A l : Nat)]) ∧ Hid (Reads w' sa m c (if pkE A l = 0 then pkL A l else [])) ∧ Hid (Below w1.heap.size w1 w')) := hidden (fun w1 h1 h2 => (rpack_any al bl nl ml lc mc A l w1 h1 h2 hnl hml hlc hlm).mono (fun r w' hh => pk_any2 hh))
  generalize (if plE A = 0 then tbL T A else []) = TX at *
  generalize (if pkE A l = 0 then pkL A l else []) = PX at *
  generalize plE A = E1 at *
  generalize pkE A l = E2 at *
  have HV := hidden hv
  have HV2 := hidden hv2
  clear hv hv2
  go_enter Try.func3, Try.ntmps3
  go_upto_region 4 with (first
    | (at_builtin; refine wpList_copy32 (w0 := w) rfl (.tmp 26) (.tmp 27) rfl nl lc al A rfl rfl HV.out hz1 (by omega) ?_; intro a1 c1 w1 HA1 hc1 hc1m HB1; have HV2a := hidden (HV2.out.later HB1.out))
    | (at_builtin; refine wpList_copy32 (w0 := w1) rfl (.tmp 29) (.tmp 30) rfl ml mc bl l rfl rfl HV2a.out hz2 (by omega) ?_; intro a2 c2 w2 HA2 hc2 hc2m HB2; have HA1b := hidden (HA1.out.later HB2.out); have HBw2 := hidden (HB1.out.trans (HB2.out.mono HB1.out.size)))
    | fail)
  clear HA1 HB1 HB2 HV2a hz1 hz2
  go_upto_region 5 with (first | (go_at_call 7; refine (HT1.out _ _ _ HA1b.out hc1 hc1m).mono ?_; rintro r w3 ⟨ta, tn, tc, rfl, HR3, hb3⟩; have HBw3 := hidden (HBw2.out.trans (hb3.out.mono HBw2.out.size)); have HA1c := hidden (HA1b.out.later hb3.out); have HA2c := hidden (HA2.out.later hb3.out)) | fail)
  clear HA1b HA2 HBw2 hb3 HT1
  have HVc := hidden (HV.out.later HBw3.out)
  go_upto_region 6 with (first | (go_at_call 8; refine (HT2.out _ HVc.out).mono ?_; rintro r w4 ⟨ua, un, uc, rfl, HR4, hb4⟩; have HBw4 := hidden (HBw3.out.trans (hb4.out.mono HBw3.out.size)); have HA1d := hidden (HA1c.out.later hb4.out); have HA2d := hidden (HA2c.out.later hb4.out); have HR3d := hidden (HR3.out.later hb4.out)) | fail)
  clear HA1c HA2c HBw3 hb4 HT2 HVc HR3
  go_upto_region 7 with (first | (go_at_call 9; refine (HP1.out _ _ _ _ _ HA1d.out HA2d.out).mono ?_; rintro r w5 ⟨va, vn, vc, rfl, HR5, hb5⟩; have HBw5 := hidden (HBw4.out.trans (hb5.out.mono HBw4.out.size)); have HA1e := hidden (HA1d.out.later hb5.out); have HA2e := hidden (HA2d.out.later hb5.out); have HR3e := hidden (HR3d.out.later hb5.out); have HR4e := hidden (HR4.out.later hb5.out)) | fail)
  clear HA1d HA2d HBw4 hb5 HP1 HR3d HR4
  have HVe := hidden (HV.out.later HBw5.out)
  have HV2e := hidden (HV2.out.later HBw5.out)
  go_upto_region 8 with (first | (go_at_call 10; refine (HP2.out _ HVe.out HV2e.out).mono ?_; rintro r w6 ⟨xa, xn, xc, rfl, HR6, hb6⟩; have HBw6 := hidden (HBw5.out.trans (hb6.out.mono HBw5.out.size)); have HA1f := hidden (HA1e.out.later hb6.out); have HA2f := hidden (HA2e.out.later hb6.out); have HR3f := hidden (HR3e.out.later hb6.out); have HR4f := hidden (HR4e.out.later hb6.out); have HR5f := hidden (HR5.out.later hb6.out)) | fail)
  clear HA1e HA2e HBw5 hb6 HP2 HR3e HR4e HR5 HVe HV2e
  have HS1 := hidden (same12 ta ua tn un tc uc TX w6 HR3f.out HR4f.out HOT.out)
  have HS2 := hidden (same12 va xa vn xn vc xc PX w6 HR5f.out HR6.out HOP.out)
  have HW1 : Hid (Calls Try.prog 13 #[.slice a1 nl c1, .slice al nl lc] w6 fun x w' => x = .returned (.bool true) ∧ Hid (Below w.heap.size w w') ∧ Hid (Below w6.heap.size w6 w')) := hidden ((words_any a1 al nl nl c1 lc A A w6 HA1f.out (HV.out.later HBw6.out) (by omega)).mono (fun x w' hh => ⟨by rw [hh.1]; simp, hidden (HBw6.out.trans (hh.2.below.mono HBw6.out.size)), hidden hh.2.below⟩))
  have HW2 : Hid (∀ w7, Below w.heap.size w w7 → Below w6.heap.size w6 w7 → Calls Try.prog 13 #[.slice a2 ml c2, .slice bl ml mc] w7 fun x w' => x = .returned (.bool true) ∧ Hid (Below w.heap.size w w')) := hidden (fun w7 h1 h2 => (words_any a2 bl ml ml c2 mc l l w7 (HA2f.out.later h2) (HV2.out.later h1) (by omega)).mono (fun x w' hh => ⟨by rw [hh.1]; simp, hidden (h1.trans (hh.2.below.mono h1.size))⟩))
  clear HA1f HA2f HR3f HR4f HR5f HR6 HV HV2 HOT HOP
  go_wp2_with (first
    | (go_at_call_of 11 (Value.slice ta tn tc); refine HS1.out.mono ?_; rintro x w9 ⟨rfl, e9⟩; rw [e9]; clear e9)
    | (go_at_call_of 11 (Value.slice va vn vc); refine HS2.out.mono ?_; rintro x w9 ⟨rfl, e9⟩; rw [e9]; clear e9)
    | (go_at_call 12; refine (num12 _ _).mono ?_; rintro x w9 ⟨rfl, e9⟩; rw [e9]; clear e9)
    | (go_at_call_of 13 (Value.slice a1 nl c1); refine HW1.out.mono ?_; rintro x w7 ⟨rfl, HB7, HB67⟩)
    | (go_at_call_of 13 (Value.slice a2 ml c2); refine (HW2.out _ HB7.out HB67.out).mono ?_; rintro x w8 ⟨rfl, HB8⟩)
    | (go_at_call 6; refine (HLV.out _ HB8.out).mono ?_; rintro x wl ⟨rfl, hbl⟩)
    | fail)
  go_ret
  exact ⟨rfl, hbl⟩
theorem row_nil {k : IntKind} {w : World} {a : Option Addr} {len cap : Nat} {zs : List Int} (h : IsRow k w a len cap zs) : a = none → cap = 0 := by
  rcases h with ⟨_, _, rfl, _⟩ | ⟨x, rfl, _⟩
  · exact fun _ => rfl
  · intro e; cases e
theorem textTables_walk (T0 : Int) (al : Option Addr) (nl lc : Nat) (vs : List Int) (bl : Option Addr) (ml mc : Nat) (us : List Int) (w : World) (hT0 : (Lit.int .u32 T0).wf = true) (hv0 : IsRow .u32 w al nl lc vs) (hu0 : IsRow .u32 w bl ml mc us) :
    Calls Try.prog 3 #[.int .u32 T0, .slice al nl lc, .slice bl ml mc] w fun e w' => e = .returned (.bool true) ∧ Below w.heap.size w w' := by
  have hTb := bounds_u32 hT0
  obtain ⟨T, rfl⟩ := Int.eq_ofNat_of_zero_le hTb.1
  obtain ⟨A, hv, hlc, hlm⟩ := vrow_of hv0
  obtain ⟨l, hv2, hmc, hmm⟩ := vrow_of hu0
  have hlcm := row_cap hv0
  have z1 := row_nil hv0
  have z2 := row_nil hu0
  clear hv0 hu0 hT0
  have HLV := hidden (live_any w)
  by_cases hnl : nl ≤ 300
  · have g2 : ¬ (300 : Int) < (nl : Int) := by omega
    by_cases hml : ml ≤ 300
    · exact tables_main T al nl lc A bl ml mc l w hv hv2 (by omega) hnl hml hlc hlcm z1 z2
    · have g3 : (300 : Int) < (ml : Int) := by omega
      clear hv hv2 z1 z2
      go_enter Try.func3, Try.ntmps3
      go_wp2_with (first | (go_at_call 6; refine HLV.out.mono ?_; rintro e wl ⟨rfl, hbl⟩))
      go_ret
      exact ⟨rfl, hbl⟩
  · have g2 : (300 : Int) < (nl : Int) := by omega
    clear hv hv2 z1 z2
    go_enter Try.func3, Try.ntmps3
    go_wp2_with (first | (go_at_call 6; refine HLV.out.mono ?_; rintro e wl ⟨rfl, hbl⟩))
    go_ret
    exact ⟨rfl, hbl⟩
end Go.Proofs.Ytbifolpahmeaeaa
