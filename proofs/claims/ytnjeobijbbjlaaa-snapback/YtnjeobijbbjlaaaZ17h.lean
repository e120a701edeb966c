/- Layer 17, the document: Stretch. -/
import Derived.Test.YtnjeobijbbjlaaaZ17g
import Derived.Lib.AppendZeros
namespace Go.Proofs.Ytnjeobijbbjlaaa
open Go.RowKit
set_option maxHeartbeats 1000000
set_option maxRecDepth 100000
set_option linter.unusedVariables false


theorem app0_nil (B k : Nat) (w : World) (hB : B ≤ w.heap.size) (hk : k ≤ 4294967296) (h0 : 0 < k) :
    ∃ g' cap' w', (∀ ty, (Builtin.append_ #[22, 3] ty #[.slice none 0 0, .int .i64 k]).run Try.prog w = .ok (.slice (some ⟨g', 0, none⟩) k cap') w') ∧ w'.ownsRow B 5 1 (.slice (some ⟨g', 0, none⟩) k cap') k (bytesV (zer8 k)) ∧ Below w.heap.size w w' ∧ w.heap.size ≤ g' := by
  obtain ⟨i0, hi, hz0, hz1, hz2⟩ := info_parts info8
  have hrun := fun ty => Lib.run_append_nil_zeros (P := Try.prog) w 22 3 ty 5 i0 (.int .u8 0) .i64 .i64 Try.underlying22 Try.underlying3 hi hz0 k h0 (by omega) (by omega) (by rw [hz2]; omega)
  have hge := grownCap_ge w k 0 5
  have hcm : grownCap w k 0 5 ≤ maxLen := grownCap_le_maxLen w k 0 5 (by unfold maxLen; omega)
  have hh := heap_alloc_new w.drew (.cells (Builtin.zeroCells (Value.int .u8 0).cells k ++ Builtin.zeroCells (Value.int .u8 0).cells (grownCap w k 0 5 - k)) 5)
  have hb : Below w.heap.size w (w.drew.alloc (.cells (Builtin.zeroCells (Value.int .u8 0).cells k ++ Builtin.zeroCells (Value.int .u8 0).cells (grownCap w k 0 5 - k)) 5)) := ⟨rfl, rfl, rfl, by simp, fun k hk => Go.heap_alloc_old _ _ hk⟩
  have hc : (Builtin.zeroCells (Value.int .u8 0).cells k ++ Builtin.zeroCells (Value.int .u8 0).cells (grownCap w k 0 5 - k)) = (bytesV (zer8 k) ++ bytesV (zer8 (grownCap w k 0 5 - k))).toArray := by rw [zc8a, zc8a]; simp
  rw [hc] at hh hb
  simp only [hc] at hrun
  have hb2 : ∀ q, (bytesV (zer8 q)).length = q := fun q => by simp [bytesV, zer8]
  refine ⟨w.heap.size, _, _, hrun, ?_, hb, Nat.le_refl _⟩
  exact own8_of (by simpa using hB) hh hge hcm (by simp only [List.length_append, hb2]; omega) (by rw [List.take_left' (hb2 k)]) (zer8_len k)
theorem app0_none0 (w : World) (ty : TypeId) : (Builtin.append_ #[22, 3] ty #[.slice none 0 0, .int .i64 (0 : Nat)]).run Try.prog w = .ok (.slice none 0 0) w := by
  obtain ⟨i0, hi, hz0, hz1, hz2⟩ := info_parts info8
  have hw2 : IntKind.i64.wrap 0 = 0 := by rw [IntKind.wrap_i64]; omega
  simp [Builtin.append_, run_underlying Try.underlying22, run_underlying Try.underlying3, sizeOf, typeInfo, zeroValue, hi, hz0, asInt, asIntOf, hw2]
theorem app0_v (B : Nat) (v : Value) (n k : Nat) (zs : List Int) (w : World) (ho : w.ownsRow B 5 1 v n (bytesV zs)) (hB : B ≤ w.heap.size) (hk : n + k ≤ 40000000) :
    ∃ a' c' w', (∀ ty, (Builtin.append_ #[22, 3] ty #[v, .int .i64 k]).run Try.prog w = .ok (.slice a' (n + k) c') w') ∧ w'.ownsRow B 5 1 (.slice a' (n + k) c') (n + k) (bytesV (zs ++ zer8 k)) ∧ Below B w w' := by
  rcases ho.2 with ⟨h1, h2⟩ | ⟨g, cap, cur, h1, h3, _⟩
  · subst h2
    have hz : zs = [] := by
      have := ho.1
      simp [bytesV] at this
      exact this
    subst hz
    subst h1
    by_cases h0 : k = 0
    · subst h0
      exact ⟨none, 0, w, fun ty => app0_none0 w ty, World.ownsRow_nil _ _ _ _, Below.refl _ _⟩
    · obtain ⟨g', c', w', r1, r2, r3, r4⟩ := app0_nil B k w hB (by omega) (by omega)
      exact ⟨some ⟨g', 0, none⟩, c', w', fun ty => by rw [Nat.zero_add]; exact r1 ty, by rw [Nat.zero_add, List.nil_append]; exact r2, r3.mono hB⟩
  · subst h1
    obtain ⟨g', c', w', r1, r2, r3⟩ := app0_any .i64 .i64 3 Try.underlying3 B g n cap k zs w ho hB (by omega)
    exact ⟨some ⟨g', 0, none⟩, c', w', r1, r2, r3.below hB (fun x e => by subst e; exact h3)⟩
theorem wpList_app0 {w : World} {ops : Array Oper} {rest : List Oper} {o : Oper} {a : Act} {Q : Exit → Act → World → Prop} (hgd : o.guard = none) (s x : Operand)
    (ho : o.op = .call { callee := .builtin .append, args := #[s, x], argTypes := #[22, 3] })
    (B n k : Nat) (v : Value) (zs : List Int) (hs : a.eval s = v) (hx : a.eval x = .int .i64 (k : Int)) (hown : w.ownsRow B 5 1 v n (bytesV zs)) (hB : B ≤ w.heap.size) (hk : n + k ≤ 40000000)
    (h : ∀ a' c' w', Hid (w'.ownsRow B 5 1 (.slice a' (n + k) c') (n + k) (bytesV (zs ++ zer8 k))) → Hid (Below B w w') → wpList Try.prog ops Q rest (a.put o.dst (.slice a' (n + k) c')) w') : wpList Try.prog ops Q (o :: rest) a w := by
  refine wpList_plain hgd fun K hK => ?_
  obtain ⟨a', c', w', hrun, h1, h2⟩ := app0_v B v n k zs w hown hB hk
  unfold Oper.wp
  simp [execOp, ho, resolve, invoke, builtin, hs, hx, hrun, Result.andThen]
  exact hK _ _ (h a' c' w' (hidden h1) (hidden h2))
theorem dstretch_bad (a b : Option Addr) (la ca lb cb : Nat) (size : Int) (w : World) (hs : size < 0 ∨ 1048576 < size) :
    Calls Try.prog 14 #[.slice a la ca, .int .i64 size, .slice b lb cb] w (StR w [] 1) := by
  have HF := hidden (World.ownsRow_nil w w.heap.size 5 1)
  by_cases h0 : size < 0
  · go_enter Try.func14, Try.ntmps14
    go_wp2
    go_ret2
    exact ⟨_, _, _, rfl, HF, hidden (Below.refl _ _)⟩
  · have h1 : size > 1048576 := by omega
    clear hs
    go_enter Try.func14, Try.ntmps14
    go_wp2
    go_ret2
    exact ⟨_, _, _, rfl, HF, hidden (Below.refl _ _)⟩
set_option maxHeartbeats 16000000 in
theorem dstretch_good (a b : Option Addr) (la ca lb cb n : Nat) (ws bs : List Int) (w : World) (ha : Reads w a la ca ws) (hb : Reads w b lb cb bs) (hbd : OkB bs) (hla : la ≤ 2000000) (hlb : lb ≤ 2000000) (hn : n ≤ 1048576) :
    Calls Try.prog 14 #[.slice a la ca, .int .i64 n, .slice b lb cb] w (StR w (stL ws n bs) (stE n bs)) := by
  have HSB := hidden (stays_of hb)
  have HRW : Hid (∀ ao c m zs w1, w1.ownsRow w.heap.size 5 1 (.slice ao m c) m (bytesV zs) → Below w.heap.size w w1 → m ≤ 4000000 → Calls Try.prog 25 #[.slice a la ca, .slice ao m c] w1 (RowR w1 (rowL ws zs))) := hidden (fun ao c m zs w1 h1 h2 hm => drow_any a ao la ca m c ws zs w1 (stays_of ha w1 h2) (own_read8 (v := .slice ao m c) h1) (by omega) hm)
  have n0 : ¬ ((n : Int) < 0) := by omega
  have n1 : ¬ ((n : Int) > 1048576) := by omega
  have HEQ : Hid (stE n bs = unE bs n) := hidden (by unfold stE; rw [if_neg (by omega)]; rfl)
  have HLQ : Hid (unE bs n = 0 → stL ws n bs = rowL ws (unL bs ++ zer8 (n - (unL bs).length))) := hidden (fun h => by unfold stL; rw [HEQ.out, if_pos h]; rfl)
  have HLN : Hid (unE bs n ≠ 0 → stL ws n bs = []) := hidden (fun h => by unfold stL; rw [HEQ.out, if_neg h])
  rw [HEQ.out]
  have HBD := hidden hbd
  have HLB := hidden hb.1
  generalize stL ws n bs = RES at *
  clear ha hb hbd HEQ
  go_enter Try.func14, Try.ntmps14
  go_upto_region 5 with fail
  go_loopw [8, 9] (fun v i w' => ∃ (p t : Nat) (told : List Int), p ≤ lb ∧ t ≤ n ∧ i = .int .i64 p ∧ Hid (told ++ unL (bs.drop p) = unL bs ∧ unE (bs.drop p) (n - t) = unE bs n) ∧ Hid (w'.ownsRow w.heap.size 5 1 v t (bytesV told)) ∧ Hid (Below w.heap.size w w')) (fun _ i _ => lb - (intOf i).toNat)
  case atStart => exact ⟨0, 0, [], by omega, by omega, rfl, hidden ⟨by simp, rfl⟩, hidden (World.ownsRow_nil _ _ _ _), hidden (Below.refl _ _)⟩
  case round =>
    obtain ⟨p, t, told, hp, ht, rfl, HT, HO, HB⟩ := hrel
    by_cases hlt : p < lb
    · have l1 : (p : Int) < lb := by omega
      have l0 : (0 : Int) ≤ p := by omega
      obtain ⟨x, rfl, hx⟩ := stays_cell HSB.out (by omega)
      have c0 := hx wr HB.out p hlt
      have hp2 : p < bs.length := by rw [HLB.out]; exact hlt
      have hd : bs.drop p = bs.getD p 0 :: bs.drop (p + 1) := by
        rw [← List.getElem_cons_drop hp2]
        simp [List.getD_eq_getElem?_getD, hp2]
      by_cases hc : bs.getD p 0 = 0
      · rw [hc] at c0 hd
        by_cases h1 : p + 1 = lb
        · have hd1 : bs.drop (p + 1) = [] := by rw [List.drop_eq_nil_iff, HLB.out]; omega
          have HU : Hid (unE bs n = 2) := hidden (by rw [← HT.out.2, hd, hd1, unE_short])
          have HR0 := hidden (HLN.out (by rw [HU.out]; decide))
          have le : ((p : Int) + 1 == lb) = true := by rw [beq_iff_eq]; omega
          clear hd hd1 hx HSB HRW HLQ HLN HT HO hc h1
          go_wp2
          go_ret2
          exact ⟨none, 0, 0, by rw [HU.out]; rfl, by rw [HR0.out]; exact hidden (World.ownsRow_nil _ _ _ _), HB⟩
        · have hp3 : p + 1 < bs.length := by rw [HLB.out]; omega
          have hd1 : bs.drop (p + 1) = bs.getD (p + 1) 0 :: bs.drop (p + 2) := by
            rw [← List.getElem_cons_drop hp3]
            simp [List.getD_eq_getElem?_getD, hp3]
          have hdb := okb_at HBD.out (p + 1)
          have c1 := hx wr HB.out (p + 1) (by omega)
          obtain ⟨D, hD⟩ : ∃ D : Nat, bs.getD (p + 1) 0 = D := ⟨(bs.getD (p + 1) 0).toNat, by omega⟩
          have hD255 : D ≤ 255 := by omega
          rw [hD, Addr.add_succ'] at c1
          rw [hD] at hd1
          have le : ((p : Int) + 1 == lb) = false := by rw [beq_eq_false_iff_ne]; omega
          have l2 : (p : Int) + 1 < lb := by omega
          have hw1 : IntKind.i64.wrap (D : Int) = D := by rw [IntKind.wrap_i64]; omega
          have hw2 : IntKind.i64.wrap ((D : Int) + 1) = (D : Int) + 1 := by rw [IntKind.wrap_i64]; omega
          have HXD : Hid (Value.int .i64 ((D : Int) + 1) = .int .i64 ((D + 1 : Nat) : Int)) := hidden (by congr 1)
          have HUR : Hid (unL (bs.drop p) = zer8 (D + 1) ++ unL (bs.drop (p + 2))) := hidden (by rw [hd, hd1, unL_run]; rfl)
          have HUE : Hid (unE (bs.drop p) (n - t) = if n - t < D + 1 then 3 else unE (bs.drop (p + 2)) (n - t - (D + 1))) := hidden (by rw [hd, hd1, unE_run]; rfl)
          clear hd hd1 hx hc h1 hdb hD
          by_cases hq : n - t < D + 1
          · have hgt : ((t + (D + 1) : Nat) : Int) > (n : Int) := by omega
            have HU : Hid (unE bs n = 3) := hidden (by rw [← HT.out.2, HUE.out, if_pos hq])
            have HR0 := hidden (HLN.out (by rw [HU.out]; decide))
            clear HT HUR HUE HLN HLQ HRW HSB
            go_wp2_with (first
              | (at_builtin; go_loud (refine wpList_app0 rfl _ _ rfl w.heap.size t (D + 1) _ told rfl (by exact HXD.out) HO.out HB.out.size (by omega) ?_); intro a2 c2 w2 HO2 HB2)
              | fail)
            go_ret2
            exact ⟨none, 0, 0, by rw [HU.out]; rfl, by rw [HR0.out]; exact hidden (World.ownsRow_nil _ _ _ _), hidden (HB.out.trans HB2.out)⟩
          · have hgt : ¬ (((t + (D + 1) : Nat) : Int) > (n : Int)) := by omega
            have HT2 : Hid ((told ++ zer8 (D + 1)) ++ unL (bs.drop (p + 2)) = unL bs ∧ unE (bs.drop (p + 2)) (n - (t + (D + 1))) = unE bs n) := hidden ⟨by rw [← HT.out.1, HUR.out]; simp, by rw [← HT.out.2, HUE.out, if_neg hq, show n - t - (D + 1) = n - (t + (D + 1)) by omega]⟩
            clear HT HUR HUE HLN HLQ HRW HSB
            go_wp2_with (first
              | (at_builtin; go_loud (refine wpList_app0 rfl _ _ rfl w.heap.size t (D + 1) _ told rfl (by exact HXD.out) HO.out HB.out.size (by omega) ?_); intro a2 c2 w2 HO2 HB2)
              | fail)
            go_roundw
            case rel => exact ⟨p + 2, t + (D + 1), _, by omega, by omega, by first | rfl | go_num, HT2, HO2, hidden (HB.out.trans HB2.out)⟩
            case measure => simp [intOf]; omega
      · have hce : (bs.getD p 0 != 0) = true := by rw [bne_iff_ne]; exact hc
        have HUR : Hid (unL (bs.drop p) = bs.getD p 0 :: unL (bs.drop (p + 1))) := hidden (by rw [hd, unL_byte _ _ hc])
        have HUE : Hid (unE (bs.drop p) (n - t) = if n - t < 1 then 3 else unE (bs.drop (p + 1)) (n - t - 1)) := hidden (by rw [hd, unE_byte _ _ _ hc])
        generalize bs.getD p 0 = C at *
        have hb1 : Below wr.heap.size wr (wr.alloc (.cells #[.int .u8 C] 5)) := (Below.refl _ _).alloc (Nat.le_refl _) _
        have HO1 := hidden (own_later HO.out hb1)
        have HN := hidden (new_cell wr [C] (by unfold maxLen; simp))
        have HBs := hidden (HB.out.trans (hb1.mono HB.out.size))
        clear hd hx hc hb1 HO
        by_cases hq : n - t < 1
        · have hgt : ((t + 1 : Nat) : Int) > (n : Int) := by omega
          have hgt2 : (t : Int) + 1 > (n : Int) := by omega
          have HU : Hid (unE bs n = 3) := hidden (by rw [← HT.out.2, HUE.out, if_pos hq])
          have HR0 := hidden (HLN.out (by rw [HU.out]; decide))
          clear HT HUR HUE HLN HLQ HRW HSB
          go_wp2_with (first
            | (at_builtin; refine wpList_snoc8 rfl _ _ rfl w.heap.size u8 t 1 1 told [C] ⟨wr.heap.size, 0, none⟩ rfl rfl HO1.out rfl (by omega) HN.out (by omega) HBs.out.size ?_; intro a2 c2 w2 HO2 HB2)
            | fail)
          go_ret2
          exact ⟨none, 0, 0, by rw [HU.out]; rfl, by rw [HR0.out]; exact hidden (World.ownsRow_nil _ _ _ _), hidden (HBs.out.trans HB2.out)⟩
        · have hgt : ¬ (((t + 1 : Nat) : Int) > (n : Int)) := by omega
          have hgt2 : ¬ ((t : Int) + 1 > (n : Int)) := by omega
          have HT2 : Hid ((told ++ [C]) ++ unL (bs.drop (p + 1)) = unL bs ∧ unE (bs.drop (p + 1)) (n - (t + 1)) = unE bs n) := hidden ⟨by rw [← HT.out.1, HUR.out]; simp, by rw [← HT.out.2, HUE.out, if_neg hq, show n - t - 1 = n - (t + 1) by omega]⟩
          clear HT HUR HUE HLN HLQ HRW HSB
          go_wp2_with (first
            | (at_builtin; refine wpList_snoc8 rfl _ _ rfl w.heap.size u8 t 1 1 told [C] ⟨wr.heap.size, 0, none⟩ rfl rfl HO1.out rfl (by omega) HN.out (by omega) HBs.out.size ?_; intro a2 c2 w2 HO2 HB2)
            | fail)
          go_roundw
          case rel => exact ⟨p + 1, t + 1, _, by omega, by omega, by first | rfl | go_num, HT2, HO2, hidden (HBs.out.trans HB2.out)⟩
          case measure => simp [intOf]; omega
    · obtain rfl : p = lb := by omega
      have hd0 : bs.drop p = [] := by rw [List.drop_eq_nil_iff, HLB.out]; omega
      rw [hd0] at HT
      have HU : Hid (unE bs n = 0 ∧ told = unL bs) := hidden ⟨by rw [← HT.out.2]; rfl, by rw [← HT.out.1]; simp [unL]⟩
      have HR0 := hidden (HLQ.out HU.out.1)
      have HTL := hidden (row_len HO.out)
      obtain ⟨av, cv, rfl⟩ := own_slice8 HO.out
      obtain ⟨K, rfl⟩ : ∃ K, n = t + K := ⟨n - t, by omega⟩
      have hKe : t + K - t = K := by omega
      rw [hKe] at *
      clear hKe
      have HXQ : Hid (Value.int .i64 (((t + K : Nat) : Int) - (t : Int)) = .int .i64 (K : Int)) := hidden (by congr 1; omega)
      clear hd0 HT HSB HLN HLQ
      go_upto_region 15 with fail
      go_wp2_with (first
        | (at_builtin; refine wpList_app0 rfl _ _ rfl w.heap.size t K (.slice av t cv) told rfl (by exact HXQ.out) HO.out HB.out.size (by omega) ?_; intro a2 c2 w2 HO2 HB2; have HRL := hidden (HRW.out _ _ _ _ _ HO2.out (HB.out.trans HB2.out) (by omega)); clear HRW HO)
        | (go_at_call 25; refine HRL.out.mono ?_; rintro e w5 ⟨a5, n5, c5, rfl, HO5, HB5⟩)
        | fail)
      go_ret2
      exact ⟨_, _, _, by rw [HU.out.1]; rfl, by rw [HR0.out, ← HU.out.2, HTL.out, Nat.add_sub_cancel_left]; exact hidden (own_base HO5.out (HB.out.trans HB2.out).size), hidden ((HB.out.trans HB2.out).trans (HB5.out.mono (HB.out.trans HB2.out).size))⟩
end Go.Proofs.Ytnjeobijbbjlaaa
