/- The document's Blocks: the blocks rising by address. -/
import Derived.Test.YthdbaiddmelhgaaE9e
namespace Go.Proofs.Ythdbaiddmelhgaa
open Go.RowKit
set_option maxHeartbeats 1000000
set_option maxRecDepth 100000
set_option linter.unusedVariables false

/-- of the blocks of ls, those that lie behind the first k of bs: at the least address the k-th of bs -/
theorem chain_inj {e f : Nat} {bs : List Bk} (hc : Chain e f bs) {i j : Nat} (hi : i < bs.length) (hj : j < bs.length) (h : bs[i].a = bs[j].a) : i = j := by
  rcases Nat.lt_trichotomy i j with h1 | h1 | h1
  · have := chain_lt hc i j h1 hj; omega
  · exact h1
  · have := chain_lt hc j i h1 hi; omega
theorem perm_at {ls bs : List Bk} (h : ls.Perm bs) (i : Nat) (hi : i < ls.length) : ∃ j, ∃ hj : j < bs.length, bs[j] = ls[i] := by
  have hm := h.mem_iff.1 (List.getElem_mem hi)
  obtain ⟨j, hj, e⟩ := List.getElem_of_mem hm
  exact ⟨j, hj, e⟩
theorem perm_at' {ls bs : List Bk} (h : ls.Perm bs) (j : Nat) (hj : j < bs.length) : ∃ i, ∃ hi : i < ls.length, ls[i] = bs[j] := by
  have hm := h.mem_iff.2 (List.getElem_mem hj)
  obtain ⟨i, hi, e⟩ := List.getElem_of_mem hm
  exact ⟨i, hi, e⟩
set_option maxHeartbeats 6000000 in
theorem dblocks_any (B d : Nat) (u : Value) (t : Hs) (bs : List Bk) (e f : Nat) (w : World) (hp : DpAt B w d u t) (hpm : t.bs.Perm bs) (hc : Chain e f bs) (hl : t.bs.length ≤ 4096) :
    Calls Try.prog 10 #[.pointer (some ⟨d, 0, none⟩)] w fun r w' => ∃ ao' c', r = .returned (.slice ao' bs.length c') ∧ w'.ownsRow w.heap.size 40 2 (.slice ao' bs.length c') bs.length (bksV bs) ∧ Below w.heap.size w w' := by
  obtain ⟨i0, hi, hz0, hz1, hz2⟩ := bk_parts
  obtain ⟨ao, c, rfl⟩ := own_slice2 hp.2.2
  have hnc : t.bs.length ≤ c := (own_bks hp.2.2).2.1
  have hcm : c ≤ 9223372036854775807 := (own_bks hp.2.2).2.2.1
  have h3 := hp.cells.2.2.2.1
  have HO := hidden hp.2.2
  have hlen := hpm.length_eq
  have HPM := hidden hpm
  have HC := hidden hc
  have NDI : Hid (∀ i j (hi : i < t.bs.length) (hj : j < t.bs.length), t.bs[i] = t.bs[j] → i = j) := fun i j hi hj h => by
    have hnd : bs.Nodup := List.pairwise_iff_getElem.2 (fun i j hi hj hij e => by
      have := chain_lt hc i j hij hj
      rw [e] at this
      omega)
    have hnl : t.bs.Nodup := hpm.nodup_iff.2 hnd
    have hpw := List.pairwise_iff_getElem.1 hnl
    rcases Nat.lt_trichotomy i j with h1 | h1 | h1
    · exact absurd h (hpw i j hi hj h1)
    · exact h1
    · exact absurd h.symm (hpw j i hj hi h1)
  clear hp hpm hc
  rw [← hlen]
  have HLEN := hidden hlen
  clear hlen
  go_enter Try.func10, Try.ntmps10
  go_wp2
  go_loopw [3] (fun v wr => ∃ (k : Nat) (ao3 : Option Addr) (c3 : Nat), k ≤ t.bs.length ∧ v = .slice ao3 k c3 ∧ Hid (wr.ownsRow w.heap.size 40 2 (.slice ao3 k c3) k (bksV (bs.take k))) ∧ Below w.heap.size w wr) (fun v _ => t.bs.length - (match v with | .slice _ n _ => n | _ => 0))
  case atStart => exact ⟨0, none, 0, by omega, rfl, hidden (World.ownsRow_nil _ _ _ _), Below.refl _ _⟩
  case round =>
    obtain ⟨k, ao3, c3, hk, rfl, HR, hb⟩ := hrel
    have h3' := cellLater hb h3
    have hk3 : k ≤ c3 := (own_bks HR.out).2.1
    have hwz := hb.size
    by_cases hlt : k < t.bs.length
    · have d1 : (k : Int) < (t.bs.length : Int) := by omega
      have hkb : k < bs.length := by have := HLEN.out; omega
      obtain ⟨S, hS, hSe⟩ := perm_at' HPM.out k hkb
      obtain ⟨T, hT⟩ : ∃ T, T = bs[k].a := ⟨_, rfl⟩
      -- what is behind: those from the k-th on
      have HBH : Hid (∀ i (h : i < t.bs.length), (k = 0 ∨ ∃ hk0 : k - 1 < bs.length, (bs[k - 1]).a < (t.bs[i]).a) → T ≤ (t.bs[i]).a) := fun i h hbe => by
        obtain ⟨j, hj, ej⟩ := perm_at HPM.out i h
        rw [← ej, hT]
        rcases hbe with h0 | ⟨hk0, hlt0⟩
        · subst h0
          rcases Nat.eq_zero_or_pos j with h1 | h1
          · subst h1; exact Nat.le_refl _
          · exact Nat.le_of_lt (chain_lt HC.out 0 j h1 hj)
        · rw [← ej] at hlt0
          have hjk : k ≤ j := by
            rcases Nat.lt_or_ge j k with h1 | h1
            · rcases Nat.lt_or_ge j (k - 1) with h2 | h2
              · have := chain_lt HC.out j (k - 1) h2 hk0; omega
              · have e : j = k - 1 := by omega
                subst e; omega
            · exact h1
          rcases Nat.lt_or_ge k j with h1 | h1
          · exact Nat.le_of_lt (chain_lt HC.out k j h1 hj)
          · have e : j = k := by omega
            subst e; exact Nat.le_refl _
      have HUN : Hid (∀ i (h : i < t.bs.length), (t.bs[i]).a = T → i = S) := fun i h e => by
        obtain ⟨j, hj, ej⟩ := perm_at HPM.out i h
        have e1 : j = k := chain_inj HC.out hj hkb (by rw [ej, e, hT])
        subst e1
        exact NDI.out i S h hS (by rw [← ej, hSe])
      have HSQ : Hid (∀ q (h : q < t.bs.length), q = S → (t.bs[q]).a = T) := fun q h e => by subst e; rw [hSe, hT]
      have HSB : Hid (∀ (hk0 : 0 < k), (bs[k - 1]'(by omega)).a < T) := fun hk0 => by rw [hT]; exact chain_lt HC.out (k - 1) k (by omega) hkb
      have HSE := hidden hSe
      clear hSe hT
      obtain ⟨gl, hgl, hcells⟩ := own_cells HO.out (by omega)
      subst hgl
      have HCE : Hid (∀ i (h : i < t.bs.length) w1, Below wr.heap.size wr w1 → w1.cell? ⟨gl, i * 2, none⟩ = some (.int .u32 (t.bs[i]).a)) := fun i h w1 hb1 => cellLater (hb.trans (hb1.mono hwz)) (hcells i h).1
      have HCF : Hid (∀ i (h : i < t.bs.length) w1, Below wr.heap.size wr w1 → w1.cell? ⟨gl, i * 2 + 1, none⟩ = some (.int .u32 (t.bs[i]).l)) := fun i h w1 hb1 => cellLater (hb.trans (hb1.mono hwz)) (hcells i h).2
      have HC3 : Hid (∀ w1, Below wr.heap.size wr w1 → w1.cell? ⟨d, 3, none⟩ = some (.slice (some ⟨gl, 0, none⟩) t.bs.length c)) := fun w1 hb1 => cellLater (hb.trans (hb1.mono hwz)) h3
      have HLA : Hid (0 < k → ∃ g3, ao3 = some ⟨g3, 0, none⟩ ∧ ∀ w1, Below wr.heap.size wr w1 → w1.cell? ⟨g3, (k - 1) * 2, none⟩ = some (.int .u32 (bs[k - 1]'(by omega)).a)) := fun hk0 => by
        obtain ⟨g3, e3, h33⟩ := own_cells (bs := bs.take k) HR.out hk0
        refine ⟨g3, e3, fun w1 hb1 => ?_⟩
        have := (h33 (k - 1) (by rw [List.length_take]; omega)).1
        rw [List.getElem_take] at this
        exact cellLater hb1 this
      clear hcells
      have hbw0 := Below.refl wr.heap.size wr
      generalize hwq : wr = wq at *
      clear hwq
      go_wp2
      go_loopw [4, 5] (fun a4 i4 wr => ∃ i : Nat, i ≤ t.bs.length ∧ i4 = .int .i64 i ∧ Below wq.heap.size wq wr ∧ ((a4 = .int .i64 (-1) ∧ Hid (i ≤ S)) ∨ (∃ q : Nat, a4 = .int .i64 q ∧ ∃ hq : q < t.bs.length, Hid (T ≤ (t.bs[q]).a) ∧ Hid (S < i → q = S)))) (fun _ i4 _ => t.bs.length - (intOf i4).toNat)
      case atStart => exact ⟨0, by omega, rfl, hbw0, .inl ⟨rfl, hidden (by omega)⟩⟩
      case round =>
        obtain ⟨i, hi', rfl, hbi, hat⟩ := hrel
        have k3 := HC3.out wr hbi
        by_cases hil : i < t.bs.length
        · have hia := HCE.out i hil wr hbi
          have di : (i : Int) < (t.bs.length : Int) := by omega
          have HBI := hidden (HBH.out i hil)
          have HIS := hidden (HSQ.out i hil)
          have HUI := hidden (HUN.out i hil)
          generalize hLa : (t.bs[i]).a = La at *
          have HL := hidden hLa
          clear hLa
          by_cases hk0 : k = 0
          · have dk0 : ((k : Int) == 0) = true := by rw [beq_iff_eq]; omega
            have HTa : Hid (T ≤ La) := HBI.out (.inl hk0)
            have HK0 := hidden hk0
            clear hk0
            rcases hat with ⟨rfl, HA⟩ | ⟨q, rfl, hq1, HA, HA2⟩
            · have HNEW : Hid (S < i + 1 → i = S) := fun h => by have := HA.out; omega
              go_wp2_with fail
              go_quiet (fail)
              go_wp2_with fail
              go_quiet (fail)
              go_wp2
              go_roundw
              case rel => exact ⟨i + 1, by omega, int_eq (by omega), ⟨hbi.os, hbi.tape, hbi.output, hbi.size, hbi.block⟩, .inr ⟨i, rfl, hil, hidden (by rw [HL.out]; exact HTa.out), HNEW⟩⟩
              case measure => simp [intOf]; omega
            · have hqa := HCE.out q hq1 wr hbi
              have hT2 := HA.out
              have HQI := hidden (HUN.out q hq1)
              have HQS := hidden (HSQ.out q hq1)
              generalize hQa : (t.bs[q]).a = Qa at *
              have HQL := hidden hQa
              clear hQa
              have dq : decide ((q : Int) < 0) = false := by simp
              have dq2 : (0 : Int) ≤ (q : Int) := by omega
              have dq3 : (q : Int) < (t.bs.length : Int) := by omega
              by_cases hcq : La < Qa
              · have dc : decide ((La : Int) < (Qa : Int)) = true := by simp; omega
                have HNEW : Hid (S < i + 1 → i = S) := fun h => by
                  by_cases hin : S < i
                  · have h2 := HQS.out (HA2.out hin)
                    have h3 := HTa.out
                    omega
                  · omega
                go_wp2_with fail
                go_quiet (fail)
                go_wp2_with fail
                go_quiet (fail)
                go_wp2
                go_roundw
                case rel => exact ⟨i + 1, by omega, int_eq (by omega), ⟨hbi.os, hbi.tape, hbi.output, hbi.size, hbi.block⟩, .inr ⟨i, rfl, hil, hidden (by rw [HL.out]; exact HTa.out), HNEW⟩⟩
                case measure => simp [intOf]; omega
              · have dc : decide ((La : Int) < (Qa : Int)) = false := by simp; omega
                have HNEW : Hid (S < i + 1 → q = S) := fun h => by
                  by_cases hin : S < i
                  · exact HA2.out hin
                  · have h2 := HIS.out (show i = S by omega)
                    exact HQI.out (by omega)
                go_wp2_with fail
                go_quiet (fail)
                go_wp2_with fail
                go_quiet (fail)
                go_wp2
                go_roundw
                case rel => exact ⟨i + 1, by omega, int_eq (by omega), ⟨hbi.os, hbi.tape, hbi.output, hbi.size, hbi.block⟩, .inr ⟨q, rfl, hq1, hidden (by rw [HQL.out]; exact HA.out), HNEW⟩⟩
                case measure => simp [intOf]; omega
          · have dk0 : ((k : Int) == 0) = false := by rw [beq_eq_false_iff_ne]; omega
            obtain ⟨m, hm⟩ : ∃ m, k = m + 1 := ⟨k - 1, by omega⟩
            obtain ⟨g3, e3, hlast⟩ := HLA.out (by omega)
            subst e3
            have hla := hlast wr hbi
            have hsb := HSB.out (by omega)
            have hbh := HBI.out
            clear hlast HLA HBI
            have e5 : k - 1 = m := by omega
            have HTb : Hid ((bs[k - 1]'(by omega)).a < La → T ≤ La) := fun h => hbh (.inr ⟨by omega, h⟩)
            clear hbh
            generalize (bs[k - 1]'(by omega)).a = Z at *
            rw [e5] at hla
            have hkm : (k : Int) - 1 = (m : Int) := by omega
            have dm0 : (0 : Int) ≤ (m : Int) := by omega
            have dm1 : (m : Int) < (k : Int) := by omega
            have HM := hidden hm
            clear hm e5 hk0
            by_cases hz : Z < La
            · have HTa : Hid (T ≤ La) := HTb.out hz
              have dz : decide (Z < La) = true := by simp; omega
              rcases hat with ⟨rfl, HA⟩ | ⟨q, rfl, hq1, HA, HA2⟩
              · have HNEW : Hid (S < i + 1 → i = S) := fun h => by have := HA.out; omega
                go_wp2_with fail
                go_quiet (fail)
                go_wp2_with fail
                go_quiet (fail)
                go_wp2
                go_roundw
                case rel => exact ⟨i + 1, by omega, int_eq (by omega), ⟨hbi.os, hbi.tape, hbi.output, hbi.size, hbi.block⟩, .inr ⟨i, rfl, hil, hidden (by rw [HL.out]; exact HTa.out), HNEW⟩⟩
                case measure => simp [intOf]; omega
              · have hqa := HCE.out q hq1 wr hbi
                have hT2 := HA.out
                have HQI := hidden (HUN.out q hq1)
                have HQS := hidden (HSQ.out q hq1)
                generalize hQa : (t.bs[q]).a = Qa at *
                have HQL := hidden hQa
                clear hQa
                have dq : decide ((q : Int) < 0) = false := by simp
                have dq2 : (0 : Int) ≤ (q : Int) := by omega
                have dq3 : (q : Int) < (t.bs.length : Int) := by omega
                by_cases hcq : La < Qa
                · have dc : decide ((La : Int) < (Qa : Int)) = true := by simp; omega
                  have HNEW : Hid (S < i + 1 → i = S) := fun h => by
                    by_cases hin : S < i
                    · have h2 := HQS.out (HA2.out hin)
                      have h3 := HTa.out
                      omega
                    · omega
                  go_wp2_with fail
                  go_quiet (fail)
                  go_wp2_with fail
                  go_quiet (fail)
                  go_wp2
                  go_roundw
                  case rel => exact ⟨i + 1, by omega, int_eq (by omega), ⟨hbi.os, hbi.tape, hbi.output, hbi.size, hbi.block⟩, .inr ⟨i, rfl, hil, hidden (by rw [HL.out]; exact HTa.out), HNEW⟩⟩
                  case measure => simp [intOf]; omega
                · have dc : decide ((La : Int) < (Qa : Int)) = false := by simp; omega
                  have HNEW : Hid (S < i + 1 → q = S) := fun h => by
                    by_cases hin : S < i
                    · exact HA2.out hin
                    · have h2 := HIS.out (show i = S by omega)
                      exact HQI.out (by omega)
                  go_wp2_with fail
                  go_quiet (fail)
                  go_wp2_with fail
                  go_quiet (fail)
                  go_wp2
                  go_roundw
                  case rel => exact ⟨i + 1, by omega, int_eq (by omega), ⟨hbi.os, hbi.tape, hbi.output, hbi.size, hbi.block⟩, .inr ⟨q, rfl, hq1, hidden (by rw [HQL.out]; exact HA.out), HNEW⟩⟩
                  case measure => simp [intOf]; omega
            · have dz : decide (Z < La) = false := by simp; omega
              have HNS : Hid (i ≠ S) := fun h => by have := HIS.out h; omega
              go_wp2_with fail
              go_quiet (fail)
              go_wp2_with fail
              go_quiet (fail)
              go_wp2
              go_roundw
              case rel =>
                refine ⟨i + 1, by omega, int_eq (by omega), ⟨hbi.os, hbi.tape, hbi.output, hbi.size, hbi.block⟩, ?_⟩
                have hns := HNS.out
                rcases hat with ⟨rfl, HA⟩ | ⟨q, rfl, hq1, HA, HA2⟩
                · exact .inl ⟨rfl, hidden (by have := HA.out; omega)⟩
                · exact .inr ⟨q, rfl, hq1, HA, hidden (fun h => HA2.out (by omega))⟩
              case measure => simp [intOf]; omega
        · obtain rfl : i = t.bs.length := by omega
          obtain ⟨q, rfl, hq1, HA, HA2⟩ : ∃ q : Nat, u4 = .int .i64 q ∧ ∃ hq : q < t.bs.length, Hid (T ≤ (t.bs[q]).a) ∧ Hid (S < t.bs.length → q = S) := by
            rcases hat with ⟨rfl, HA⟩ | h
            · have := HA.out; omega
            · exact h
          obtain rfl : q = S := HA2.out hS
          have hqa := HCE.out q hq1 wr hbi
          have hql := HCF.out q hq1 wr hbi
          have hsn : bs.take (k + 1) = bs.take k ++ [t.bs[q]] := by rw [HSE.out]; exact List.take_succ_eq_append_getElem hkb
          have HSN := hidden hsn
          have HRW : Hid (wr.ownsRow w.heap.size 40 2 (.slice ao3 k c3) k (bksV (bs.take k))) := HR.out.kept (row := none) ⟨hbi.os, hbi.tape, hbi.output, hbi.size, fun k hk _ => hbi.block k hk⟩ (by cases h : (Value.slice ao3 k c3).ownBlock <;> simp)
          have HBW : Hid (Below w.heap.size w wr) := hb.trans (hbi.mono hwz)
          have hwz2 := HBW.out.size
          clear hat HA HA2 HBH HUN HSQ HSB HSE HCE HCF HC3 HLA hsn
          generalize t.bs[q] = bq at *
          obtain ⟨a, l⟩ := bq
          simp only at hqa hql
          have dq2 : (0 : Int) ≤ (q : Int) := by omega
          have dq3 : (q : Int) < (t.bs.length : Int) := by omega
          have f0 : ¬ (t.bs.length : Int) < (t.bs.length : Int) := by omega
          go_wp2_with (first | (at_builtin; refine wpList_append_own _ rfl (.tmp 70) (.tmp 78) 29 rfl w.heap.size 40 i0 (.agg #[.int .u32 0, .int .u32 0]) 2 8 Try.underlying29 hi hz0 hz1 hz2 rfl (by decide) (.slice ao3 k c3) k (bksV (bs.take k)) rfl (HRW.out.alloc _) ⟨wr.heap.size, 0, none⟩ 1 1 [.int .u32 a, .int .u32 l] rfl rfl (two_newD wr _ _) (by intro u hu; simp at hu; rcases hu with rfl | rfl <;> rfl) (by unfold maxLen; omega) (by omega) (by simp; omega) ?_; intro v2 w2 o2 g2 hx2; obtain ⟨a2, c2, rfl⟩ := own_slice2 o2))
          go_roundw
          case rel =>
            have e : bksV (bs.take k) ++ [.int .u32 a, .int .u32 l] = bksV (bs.take (k + 1)) := by rw [HSN.out, bksV_app]; rfl
            rw [e] at o2
            refine ⟨k + 1, a2, c2, by omega, rfl, o2, ?_⟩
            refine (HBW.out.alloc hwz2 _).grown g2 (by simp; omega) (fun j hj => ?_)
            exact (HRW.out.lt j hj).1
          case measure => show t.bs.length - (k + 1) < t.bs.length - k; omega
    · obtain rfl : k = t.bs.length := by omega
      go_wp2
      go_ret
      refine ⟨ao3, c3, rfl, ?_, hb⟩
      have := HR.out
      rw [List.take_of_length_le (by have := HLEN.out; omega)] at this
      exact this
end Go.Proofs.Ythdbaiddmelhgaa
