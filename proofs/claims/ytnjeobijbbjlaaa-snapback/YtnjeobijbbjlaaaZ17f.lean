/- Layer 17, the document: Row and Squeeze. -/
import Derived.Test.YtnjeobijbbjlaaaZ17e
namespace Go.Proofs.Ytnjeobijbbjlaaa
open Go.RowKit
set_option maxHeartbeats 1000000
set_option maxRecDepth 100000
set_option linter.unusedVariables false

set_option maxHeartbeats 8000000 in
theorem drow_any (a b : Option Addr) (la ca lb cb : Nat) (ws ns : List Int) (w : World) (ha : Reads w a la ca ws) (hb : Reads w b lb cb ns) (hla : la ≤ 4000000) (hlb : lb ≤ 4000000) :
    Calls Try.prog 25 #[.slice a la ca, .slice b lb cb] w (RowR w (rowL ws ns)) := by
  have HA := hidden (stays_of ha)
  have HB0 := hidden (stays_of hb)
  have HLA := hidden ha.1
  have HLB := hidden hb.1
  clear ha hb
  go_enter Try.func25, Try.ntmps25
  go_upto_region 3 with fail
  go_loopw [5, 6] (fun v i w' => ∃ k : Nat, k ≤ lb ∧ i = .int .i64 k ∧ Hid (w'.ownsRow w.heap.size 5 1 v k (bytesV (rowL ws (ns.take k)))) ∧ Hid (Below w.heap.size w w')) (fun _ i _ => lb - (intOf i).toNat)
  case atStart => exact ⟨0, by omega, rfl, hidden (by rw [List.take_zero]; cases ws <;> exact World.ownsRow_nil _ _ _ _), hidden (Below.refl _ _)⟩
  case round =>
    obtain ⟨k, hk, rfl, HO, HB⟩ := hrel
    by_cases hlt : k < lb
    · have l1 : (k : Int) < lb := by omega
      have l0 : (0 : Int) ≤ k := by omega
      obtain ⟨y, rfl, hy⟩ := stays_cell HB0.out (by omega)
      have c1 := hy _ HB.out k hlt
      have HSN := hidden (rowL_snoc ws ns k (by rw [HLB.out]; exact hlt))
      rw [HLA.out] at HSN
      clear hy HB0
      by_cases hla2 : k < la
      · have m1 : (k : Int) < la := by omega
        obtain ⟨x, rfl, hx⟩ := stays_cell HA.out (by omega)
        have c2 := hx _ HB.out k hla2
        rw [if_pos hla2] at HSN
        unfold xb at HSN
        clear hx HA
        generalize ns.getD k 0 = Y at *
        generalize ws.getD k 0 = X at *
        have hb1 : Below wr.heap.size wr (wr.alloc (.cells #[.int .u8 (bits .xor .u8 Y X)] 5)) := (Below.refl _ _).alloc (Nat.le_refl _) _
        have HO1 := hidden (own_later HO.out hb1)
        have HN := hidden (new_cell wr [bits .xor .u8 Y X] (by unfold maxLen; simp))
        have HBs := hidden (HB.out.trans (hb1.mono HB.out.size))
        clear hb1 HO
        go_wp2_with (first
          | (at_builtin; refine wpList_snoc8 rfl _ _ rfl w.heap.size u5 k 1 1 (rowL ws (ns.take k)) [bits .xor .u8 Y X] ⟨wr.heap.size, 0, none⟩ rfl rfl HO1.out rfl (by omega) HN.out (by omega) HBs.out.size ?_; intro a2 c2 w2 HO2 HB2)
          | fail)
        go_roundw
        case rel => exact ⟨k + 1, by omega, by first | rfl | go_num, by rw [HSN.out]; exact HO2, hidden (HBs.out.trans HB2.out)⟩
        case measure => simp [intOf]; omega
      · have m1 : ¬ ((k : Int) < la) := by omega
        rw [if_neg hla2] at HSN
        generalize ns.getD k 0 = Y at *
        have hb1 : Below wr.heap.size wr (wr.alloc (.cells #[.int .u8 Y] 5)) := (Below.refl _ _).alloc (Nat.le_refl _) _
        have HO1 := hidden (own_later HO.out hb1)
        have HN := hidden (new_cell wr [Y] (by unfold maxLen; simp))
        have HBs := hidden (HB.out.trans (hb1.mono HB.out.size))
        clear hb1 HO HA
        go_wp2_with (first
          | (at_builtin; refine wpList_snoc8 rfl _ _ rfl w.heap.size u5 k 1 1 (rowL ws (ns.take k)) [Y] ⟨wr.heap.size, 0, none⟩ rfl rfl HO1.out rfl (by omega) HN.out (by omega) HBs.out.size ?_; intro a2 c2 w2 HO2 HB2)
          | fail)
        go_roundw
        case rel => exact ⟨k + 1, by omega, by first | rfl | go_num, by rw [HSN.out]; exact HO2, hidden (HBs.out.trans HB2.out)⟩
        case measure => simp [intOf]; omega
    · obtain rfl : k = lb := by omega
      obtain ⟨a', c', rfl⟩ := own_slice8 HO.out
      have HE : Hid (ns.take k = ns) := hidden (List.take_of_length_le (by rw [HLB.out]; omega))
      clear HA HB0
      go_wp2
      go_ret
      exact ⟨_, _, _, rfl, by rw [← HE.out]; exact HO, HB⟩
end Go.Proofs.Ytnjeobijbbjlaaa
