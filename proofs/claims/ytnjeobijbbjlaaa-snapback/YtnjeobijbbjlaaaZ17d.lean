/- Layer 17, the program: Squeeze. -/
import Derived.Test.YtnjeobijbbjlaaaZ17c
namespace Go.Proofs.Ytnjeobijbbjlaaa
open Go.RowKit
set_option maxHeartbeats 1000000
set_option maxRecDepth 100000
set_option linter.unusedVariables false

/-- a call's answer is a row of its own -/
def RowR (w : World) (zs : List Int) (e : Ending) (w' : World) : Prop := ∃ a n c, e = .returned (.slice a n c) ∧ Hid (w'.ownsRow w.heap.size 5 1 (.slice a n c) n (bytesV zs)) ∧ Hid (Below w.heap.size w w')
theorem row_cell {B n c : Nat} {ao : Option Addr} {w : World} {zs : List Int} (h : w.ownsRow B 5 1 (.slice ao n c) n (bytesV zs)) (h0 : 0 < n) : ∃ g, ao = some ⟨g, 0, none⟩ ∧ ∀ w1, Below w.heap.size w w1 → ∀ j, j < n → w1.cell? ⟨g, j, none⟩ = some (.int .u8 (zs.getD j 0)) := by
  obtain ⟨g, c', hv, _, _⟩ := owned_shape h h0
  simp only [Value.slice.injEq, true_and] at hv
  obtain ⟨rfl, rfl⟩ := hv
  refine ⟨g, rfl, fun w1 hb j hj => ?_⟩
  have := owned_cells (own_later h hb) j hj
  rwa [Nat.zero_add] at this
set_option maxHeartbeats 8000000 in
theorem squeeze_any (a b : Option Addr) (la ca lb cb : Nat) (ws ns : List Int) (w : World) (ha : Reads w a la ca ws) (hb : Reads w b lb cb ns) (hla : la ≤ 2000000) (hlb : lb ≤ 2000000) :
    Calls Try.prog 9 #[.slice a la ca, .slice b lb cb] w (RowR w (sqT (rowL ws ns) 0)) := by
  have HCL := hidden (clone_any b lb cb ns w hb (by omega))
  have HMX : Hid (∀ ao c w1, w1.ownsRow w.heap.size 5 1 (.slice ao lb c) lb (bytesV ns) → Below w.heap.size w w1 → Calls Try.prog 23 #[.slice ao lb c, .slice a la ca] w1 fun e w' => e = .returned (.tuple #[]) ∧ Hid (w'.ownsRow w.heap.size 5 1 (.slice ao lb c) lb (bytesV (rowL ws ns))) ∧ Hid (Below w.heap.size w1 w')) := hidden (fun ao c w1 h1 h2 => mix_any w.heap.size lb c la ca ao a ns ws w1 h1 ((stays_of ha).later h2) (by omega) (by omega))
  have hlen : (rowL ws ns).length = lb := by rw [rowL_len]; exact hb.1
  clear ha hb
  generalize rowL ws ns = RW at *
  go_enter Try.func9, Try.ntmps9
  go_upto_region 3 with (first
    | (go_at_call 22; refine HCL.out.mono ?_; rintro e w1 ⟨a1, c1, rfl, HO1, HB1⟩)
    | (go_at_call 23; refine (HMX.out _ _ _ HO1.out HB1.out).mono ?_; rintro e w2 ⟨rfl, HO2, HB2⟩)
    | fail)
  have HB02 := hidden (HB1.out.trans HB2.out)
  clear HCL HMX HO1 HB1 HB2
  have HRC : Hid (0 < lb → ∃ g, a1 = some ⟨g, 0, none⟩ ∧ ∀ w3, Below w2.heap.size w2 w3 → ∀ j, j < lb → w3.cell? ⟨g, j, none⟩ = some (.int .u8 (RW.getD j 0))) := hidden (row_cell HO2.out)
  have HLR := hidden hlen
  have HZB : Hid (∀ j, j < lb → RW.drop j = RW.getD j 0 :: RW.drop (j + 1)) := hidden (fun j hj => by
    have hj2 : j < RW.length := by rw [hlen]; exact hj
    rw [← List.getElem_cons_drop hj2]
    simp [List.getD_eq_getElem?_getD, hj2])
  clear HO2 hlen
  go_upto_region 6 with fail
  go_loopw [6, 7, 17] (fun v zz i w' => ∃ (k z m : Nat) (ys : List Int), k ≤ lb ∧ i = .int .i64 k ∧ zz = .int .i64 z ∧ m + 2 * z ≤ 2 * k ∧ Hid (w'.ownsRow w2.heap.size 5 1 v m (bytesV ys)) ∧ Hid (ys ++ sqT (RW.drop k) z = sqT RW 0) ∧ Hid (Below w2.heap.size w2 w')) (fun _ _ i _ => lb - (intOf i).toNat)
  case atStart => exact ⟨0, 0, 0, [], by omega, rfl, rfl, by omega, hidden (World.ownsRow_nil _ _ _ _), hidden (by simp), hidden (Below.refl _ _)⟩
  case round =>
    obtain ⟨k, z, m, ys, hk, rfl, rfl, hm, HO, HE, HB⟩ := hrel
    by_cases hlt : k < lb
    · have l1 : (k : Int) < lb := by omega
      have l0 : (0 : Int) ≤ k := by omega
      obtain ⟨g, rfl, hg⟩ := HRC.out (by omega)
      have c1 := hg _ HB.out k hlt
      have hd := HZB.out k hlt
      rw [hd] at HE
      clear HZB hg hd HRC
      generalize RW.getD k 0 = C at *
      by_cases hc : C = 0
      · subst hc
        have HE2 : Hid (ys ++ sqT (RW.drop (k + 1)) (z + 1) = sqT RW 0) := hidden (by rw [← HE.out, sqT, if_pos rfl])
        clear HE
        go_wp2
        go_roundw
        case rel => exact ⟨k + 1, z + 1, m, ys, by omega, by first | rfl | go_num, by first | rfl | go_num, by omega, HO, HE2, HB⟩
        case measure => simp [intOf]; omega
      · have hce : (C == 0) = false := by rw [beq_eq_false_iff_ne]; exact hc
        have HE2 : Hid (ys ++ runL z ++ [C] ++ sqT (RW.drop (k + 1)) 0 = sqT RW 0) := hidden (by rw [← HE.out, sqT, if_neg hc]; simp)
        have HAR := hidden (run_any w2.heap.size _ m z ys wr HO.out HB.out.size (by omega))
        have HLZ : Hid (∀ q, 2 * q + m ≤ 2 * k → (ys ++ runL q).length ≤ 2 * k) := hidden (fun q hq => by
          have := run_len q
          have := row_len HO.out
          simp only [List.length_append]
          omega)
        clear HE hc HO
        have HSM : Hid (m + 2 * z ≤ 2 * k ∧ 2 * k ≤ 4000000) := hidden ⟨hm, by omega⟩
        clear hm
        go_upto_region 10 with fail
        go_wp2_with (first
          | (go_at_call 24; refine HAR.out.mono ?_; rintro e w4 ⟨a4, n4, c4, rfl, HO4, HB4⟩; have hb5 : Below w4.heap.size w4 (w4.alloc (.cells #[.int .u8 C] 5)) := (Below.refl _ _).alloc (Nat.le_refl _) _; have HO5 := hidden (own_later HO4.out hb5); have HN := hidden (new_cell w4 [C] (by unfold maxLen; simp)); have HB5 := hidden ((HB.out.trans HB4.out).trans (hb5.mono (HB.out.trans HB4.out).size)); have hn4 : n4 ≤ 2 * k := (by have := HLZ.out z (by have := HSM.out.1; omega); rw [row_len HO4.out] at this; exact this); clear hb5 HO4 HB4 HAR)
          | (at_builtin; refine wpList_snoc8 rfl _ _ rfl w2.heap.size (.slice a4 n4 c4) n4 1 1 (ys ++ runL z) [C] ⟨w4.heap.size, 0, none⟩ rfl rfl HO5.out rfl (by omega) HN.out (by have := HSM.out.2; omega) HB5.out.size ?_; intro a6 c6 w6 HO6 HB6)
          | fail)
        go_roundw
        case rel => exact ⟨k + 1, 0, n4 + 1, _, by omega, by first | rfl | go_num, by first | rfl | go_num, by omega, HO6, HE2, hidden (HB5.out.trans HB6.out)⟩
        case measure => simp [intOf]; omega
    · obtain rfl : k = lb := by omega
      have h0 : RW.drop k = [] := by rw [List.drop_eq_nil_iff, HLR.out]; omega
      rw [h0, sqT, List.append_nil] at HE
      obtain ⟨a', c', rfl⟩ := own_slice8 HO.out
      have HF := hidden (HB02.out.trans (HB.out.mono HB02.out.size))
      have HF2 := hidden (own_base HO.out HB02.out.size)
      clear h0 HRC HZB HO HB HB02
      go_wp2
      go_ret
      exact ⟨_, _, _, rfl, hidden (by rw [← HE.out]; exact HF2.out), HF⟩
end Go.Proofs.Ytnjeobijbbjlaaa
