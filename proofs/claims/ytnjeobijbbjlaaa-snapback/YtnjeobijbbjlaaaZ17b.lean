/- Layer 17, the program: bytes appended; a run of bytes 0; one row mixed into another. -/
import Derived.Test.YtnjeobijbbjlaaaZ17a
namespace Go.Proofs.Ytnjeobijbbjlaaa
open Go.RowKit
set_option maxHeartbeats 1000000
set_option maxRecDepth 100000
set_option linter.unusedVariables false

/-- some bytes more behind an owned row -/
theorem wpList_snoc8 {w : World} {ops : Array Oper} {rest : List Oper} {o : Oper} {a : Act} {Q : Exit → Act → World → Prop} (hgd : o.guard = none) (s x : Operand)
    (ho : o.op = .call { callee := .builtin .append, args := #[s, x], argTypes := #[22, 22] })
    (B : Nat) (v : Value) (n k c : Nat) (zs ds : List Int) (ad : Addr) (hs : a.eval s = v) (hx : a.eval x = .slice (some ad) k c) (hown : w.ownsRow B 5 1 v n (bytesV zs)) (hk : ds.length = k) (h0 : 0 < k)
    (hnews : ∀ j u, (bytesV ds)[j]? = some u → w.cell? (ad.add j) = some u) (h63 : n + k ≤ 40000000) (hB : B ≤ w.heap.size)
    (h : ∀ a' c' w', Hid (w'.ownsRow B 5 1 (.slice a' (n + k) c') (n + k) (bytesV (zs ++ ds))) → Hid (Below B w w') → wpList Try.prog ops Q rest (a.put o.dst (.slice a' (n + k) c')) w') : wpList Try.prog ops Q (o :: rest) a w := by
  obtain ⟨i0, hi, hz0, hz1, hz2⟩ := info_parts info8
  refine wpList_append_at hgd s x 22 ho B 5 i0 (.int .u8 0) 1 1 Try.underlying22 hi hz0 hz1 hz2 rfl (by decide) v n (bytesV zs) hs hown ad k c (bytesV ds) hx (by simp [bytesV, hk]) hnews (bytesV_one _) (by unfold maxLen; omega) (by omega) hB h0 ?_
  intro v' w' h1 h2 h3
  rw [bytesV_append] at h1
  obtain ⟨a', c', rfl⟩ := own_slice8 h1
  exact h a' c' w' (hidden h1) (hidden ((fm_grown h2 h3.out).below hB (fun k e => (hown.lt k e).1)))
set_option maxHeartbeats 4000000 in
theorem run_any (B : Nat) (v : Value) (n z : Nat) (zs : List Int) (w : World) (ho : w.ownsRow B 5 1 v n (bytesV zs)) (hB : B ≤ w.heap.size) (hn : n + 2 * z ≤ 20000000) :
    Calls Try.prog 24 #[v, .int .i64 z] w fun e w' => ∃ a' n' c', e = .returned (.slice a' n' c') ∧ Hid (w'.ownsRow B 5 1 (.slice a' n' c') n' (bytesV (zs ++ runL z))) ∧ Hid (Below B w w') := by
  have HS := hidden hB
  have HO0 := hidden ho
  clear ho
  go_enter Try.func24, Try.ntmps24
  go_upto_region 1 with fail
  go_loopw [0, 1] (fun u i w' => ∃ (q m : Nat) (ys : List Int), i = .int .i64 q ∧ m + 2 * q ≤ n + 2 * z ∧ Hid (w'.ownsRow B 5 1 u m (bytesV ys)) ∧ Hid (ys ++ runL q = zs ++ runL z) ∧ Hid (Below B w w')) (fun _ i _ => (intOf i).toNat)
  case atStart => exact ⟨z, n, zs, rfl, Nat.le_refl _, HO0, hidden rfl, hidden (Below.refl _ _)⟩
  case round =>
    obtain ⟨q, m, ys, rfl, hm, HO, HE, HB⟩ := hrel
    by_cases hq : q = 0
    · subst hq
      obtain ⟨a', c', rfl⟩ := own_slice8 HO.out
      rw [runL_zero, List.append_nil] at HE
      clear HO0
      go_wp2
      go_ret
      exact ⟨_, _, _, rfl, hidden (by rw [← HE.out]; exact HO.out), HB⟩
    · have l1 : (q : Int) > 0 := by omega
      obtain ⟨M, hM⟩ : ∃ M, min q 256 = M := ⟨_, rfl⟩
      have M1 : 1 ≤ M ∧ M ≤ 256 ∧ M ≤ q := by omega
      have hw : IntKind.u8.wrap ((M : Int) - 1) = ((M - 1 : Nat) : Int) := by rw [IntKind.wrap_u8]; omega
      have hMe : (if 256 < (q : Int) then 256 else (q : Int)) = (M : Int) := by split <;> omega
      have hwq : IntKind.i64.wrap ((q : Int) - (M : Int)) = ((q - M : Nat) : Int) := by rw [IntKind.wrap_i64]; omega
      have HE2 : Hid (ys ++ [0, ((M - 1 : Nat) : Int)] ++ runL (q - M) = zs ++ runL z) := hidden (by
        rw [← HE.out, List.append_assoc]
        congr 1
        conv => rhs; rw [runL, dif_neg hq, hM]
        rfl)
      have hb1 : Below wr.heap.size wr (wr.alloc (.cells #[.int .u8 0, .int .u8 ((M - 1 : Nat) : Int)] 5)) := (Below.refl _ _).alloc (Nat.le_refl _) _
      have HO1 := hidden (own_later HO.out hb1)
      have HN := hidden (new_cell wr [0, ((M - 1 : Nat) : Int)] (by unfold maxLen; simp))
      have HBs := hidden (HB.out.trans (hb1.mono (Nat.le_trans HS.out HB.out.size)))
      have hsz := Nat.le_trans HS.out HBs.out.size
      clear hM HO HO0 HE
      go_upto_region 3 with fail
      try simp only [hMe]
      clear hMe
      go_wp2_with (first | (at_builtin; refine wpList_snoc8 rfl _ _ rfl B u0 m 2 2 ys [0, ((M - 1 : Nat) : Int)] ⟨wr.heap.size, 0, none⟩ rfl rfl HO1.out rfl (by omega) HN.out (by omega) hsz ?_; intro a2 c2 w2 HO2 HB2) | fail)
      go_roundw
      case rel => exact ⟨q - M, m + 2, _, rfl, by omega, HO2, HE2, hidden (HBs.out.trans HB2.out)⟩
      case measure => simp [intOf]; omega
end Go.Proofs.Ytnjeobijbbjlaaa
