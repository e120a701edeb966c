/- Contracts of slices.Grow and slices.Concat over bytes (any number of rows). -/
import Derived.Test.YtbifolpahmeaeaaB12a
import Derived.Lib.AppendZeros
import Derived.Handy
namespace Go.Proofs.Ytbifolpahmeaeaa
open Go.RowKit
set_option maxHeartbeats 1000000
set_option maxRecDepth 100000
set_option linter.unusedVariables false

theorem grow_nil (n : Nat) (w : World) (h0 : 0 < n) (hn : n ≤ 4294967296) :
    Calls Try.prog 32 #[.slice none 0 0, .int .i64 n] w fun e w' => ∃ c, e = .returned (.slice (some ⟨w.heap.size, 0, none⟩) 0 c) ∧ w'.ownsRow w.heap.size 5 1 (.slice (some ⟨w.heap.size, 0, none⟩) 0 c) 0 [] ∧ Below w.heap.size w w' := by
  obtain ⟨i0, hi, hz0, hz1, hz2⟩ := info_parts info8
  have hrun := fun ty => Lib.run_append_nil_zeros (P := Try.prog) w 25 3 ty 5 i0 (.int .u8 0) .i64 .i64 Try.underlying25 Try.underlying3 hi hz0 n h0 (by omega) (by omega) (by rw [hz2]; omega)
  have hge := grownCap_ge w n 0 5
  have hcm : grownCap w n 0 5 ≤ maxLen := grownCap_le_maxLen w n 0 5 (by unfold maxLen; omega)
  have hh := heap_alloc_new w.drew (.cells (Builtin.zeroCells (Value.int .u8 0).cells n ++ Builtin.zeroCells (Value.int .u8 0).cells (grownCap w n 0 5 - n)) 5)
  have hb : Below w.heap.size w (w.drew.alloc (.cells (Builtin.zeroCells (Value.int .u8 0).cells n ++ Builtin.zeroCells (Value.int .u8 0).cells (grownCap w n 0 5 - n)) 5)) := ⟨rfl, rfl, rfl, by simp, fun k hk => Go.heap_alloc_old _ _ hk⟩
  have hc : (Builtin.zeroCells (Value.int .u8 0).cells n ++ Builtin.zeroCells (Value.int .u8 0).cells (grownCap w n 0 5 - n)) = (bytesV (zer8 n) ++ bytesV (zer8 (grownCap w n 0 5 - n))).toArray := by rw [zc8a, zc8a]; simp
  rw [hc] at hh hb
  simp only [hc] at hrun
  have hb2 : ∀ q, (bytesV (zer8 q)).length = q := fun q => by simp [bytesV, zer8]
  have ho : (w.drew.alloc (.cells (bytesV (zer8 n) ++ bytesV (zer8 (grownCap w n 0 5 - n))).toArray 5)).ownsRow w.heap.size 5 1 (.slice (some ⟨w.heap.size, 0, none⟩) 0 (grownCap w n 0 5)) 0 (bytesV []) :=
    own8_of (Nat.le_refl _) hh (Nat.zero_le _) hcm (by simp only [List.length_append, hb2]; omega) (by simp [bytesV]) rfl
  have HO := hidden ho
  have HB := hidden hb
  have HRUN := hidden hrun
  generalize grownCap w n 0 5 = C at *
  generalize w.drew.alloc (.cells (bytesV (zer8 n) ++ bytesV (zer8 (C - n))).toArray 5) = w1 at *
  have q1 : ¬ (n : Int) < 0 := by omega
  have q2 : (n : Int) > 0 := by omega
  have q3 : (0 : Int) < (n : Int) := by omega
  clear ho hb hrun hh hc hb2
  go_enter Try.func32, Try.ntmps32
  go_wp2_with (at_builtin; refine Lib.wpList_append_run _ rfl (.tmp 20) (.tmp 21) 25 3 rfl _ _ rfl rfl _ _ (HRUN.out _) ?_)
  go_ret
  exact ⟨_, rfl, HO.out, HB.out⟩
/-- a row that is handed in: where it lies, how long it is, its bytes -/
structure Rw where
  a : Option Addr
  n : Nat
  c : Nat
  zs : List Int
def sumN (L : List Rw) : Nat := (L.map Rw.n).sum
def catZ (L : List Rw) : List Int := L.flatMap Rw.zs
theorem sumN_snoc (L : List Rw) (k : Nat) (h : k < L.length) : sumN (L.take (k + 1)) = sumN (L.take k) + L[k].n := by
  unfold sumN
  rw [List.take_succ_eq_append_getElem h, List.map_append, List.sum_append_nat]
  simp
theorem catZ_snoc (L : List Rw) (k : Nat) (h : k < L.length) : catZ (L.take (k + 1)) = catZ (L.take k) ++ L[k].zs := by
  unfold catZ
  rw [List.take_succ_eq_append_getElem h, List.flatMap_append]
  simp
theorem sumN_le (L : List Rw) (k : Nat) : sumN (L.take k) ≤ sumN L := by
  have h : sumN L = sumN (L.take k) + sumN (L.drop k) := by
    unfold sumN
    conv => lhs; rw [← List.take_append_drop k L]
    rw [List.map_append, List.sum_append_nat]
  omega
theorem concat_any (q cap : Nat) (L : List Rw) (w : World) (hk : ∀ i (h : i < L.length), w.cell? ⟨q, i, none⟩ = some (.slice L[i].a L[i].n L[i].c)) (hr : ∀ r ∈ L, Reads w r.a r.n r.c r.zs) (h0 : 0 < sumN L) (hs : sumN L ≤ 100000000) (hL : L.length ≤ 10) (n : Nat) (hn : L.length = n) :
    Calls Try.prog 19 #[.slice (some ⟨q, 0, none⟩) n cap] w fun e w' => ∃ g c, e = .returned (.slice (some ⟨g, 0, none⟩) (sumN L) c) ∧ w'.ownsRow w.heap.size 5 1 (.slice (some ⟨g, 0, none⟩) (sumN L) c) (sumN L) (bytesV (catZ L)) ∧ Below w.heap.size w w' := by
  have HG := hidden (grow_nil (sumN L) w h0 (by omega))
  have HK := hidden hk
  have HR := hidden hr
  have HSN := hidden (sumN_snoc L)
  have HCN := hidden (catZ_snoc L)
  have HSL := hidden (sumN_le L)
  have HT0 : Hid (L.take n = L) := by rw [← hn]; exact List.take_length
  have hn10 : n ≤ 10 := by omega
  have HN := hidden hn
  clear hk hr hn hL
  go_enter Try.func19, Try.ntmps19
  go_wp2
  go_loopw [3, 11] (fun s i wr => ∃ k : Nat, k ≤ n ∧ i = .int .i64 k ∧ s = .int .i64 ((sumN (L.take k) : Nat) : Int) ∧ w = wr) (fun _ i _ => n - (intOf i).toNat)
  case atStart => exact ⟨0, by omega, rfl, rfl, rfl⟩
  case round =>
    obtain ⟨k, hk, rfl, rfl, rfl⟩ := hrel
    by_cases hlt : k < n
    · have hkl : k < L.length := by rw [HN.out]; exact hlt
      have d1 : (k : Int) < (n : Int) := by omega
      have c0 := HK.out k hkl
      have h1 := HSN.out k hkl
      have h2 := HSL.out (k + 1)
      have w1 : IntKind.i64.wrap (((sumN (L.take k) : Nat) : Int) + (L[k].n : Int)) = ((sumN (L.take (k + 1)) : Nat) : Int) := by rw [IntKind.wrap_i64]; omega
      have d2 : ¬ ((sumN (L.take (k + 1)) : Nat) : Int) < 0 := by omega
      clear h1 h2
      generalize hS1 : sumN (L.take (k + 1)) = S1 at *
      have HS1 := hidden hS1
      clear hS1
      generalize sumN (L.take k) = S0 at *
      generalize L[k] = r at *
      go_wp2
      go_roundw
      case rel => exact ⟨k + 1, by omega, by go_num, by rw [HS1.out], by first | trivial | rfl⟩
      case measure => simp [intOf]; omega
    · obtain rfl : k = n := by omega
      rw [HT0.out]
      have d1 : ¬ (k : Int) < (k : Int) := by omega
      go_wp2_with (first | (go_at_call 32; refine HG.out.mono ?_; rintro e w2 ⟨C, rfl, ho, hb⟩; have HO := hidden ho; have HB := hidden hb; clear ho hb))
      go_loopw [6, 27] (fun v i wr' => ∃ (j g c m : Nat), j ≤ k ∧ i = .int .i64 j ∧ v = .slice (some ⟨g, 0, none⟩) m c ∧ Hid (m = sumN (L.take j)) ∧ Hid (wr'.ownsRow w.heap.size 5 1 (.slice (some ⟨g, 0, none⟩) m c) m (bytesV (catZ (L.take j)))) ∧ Hid (Below w.heap.size w wr')) (fun _ i _ => k - (intOf i).toNat)
      case atStart => exact ⟨0, w.heap.size, C, 0, by omega, rfl, rfl, rfl, HO, HB⟩
      case round =>
        obtain ⟨j, g, c, m, hj, rfl, rfl, HM, HO2, HB2⟩ := hrel
        clear HO HB
        by_cases hlt2 : j < k
        · have hjl : j < L.length := by rw [HN.out]; exact hlt2
          have d2 : (j : Int) < (k : Int) := by omega
          have c0 := cellLater HB2.out (HK.out j hjl)
          have HRR := hidden ((HR.out L[j] (List.getElem_mem hjl)).later HB2.out)
          have HS1 := hidden (HSN.out j hjl)
          have HC1 := hidden (HCN.out j hjl)
          have hle : m + L[j].n ≤ 4294967296 := by have h1 := HSN.out j hjl; have h2 := HSL.out (j + 1); have h3 := HM.out; omega
          have HSZ := hidden HB2.out.size
          generalize L[j] = r at *
          go_wp2_with (first | (at_builtin; refine wpList_appR rfl _ _ rfl w.heap.size g m c r.n r.c r.a (catZ (L.take j)) r.zs rfl rfl HO2.out HRR.out hle HSZ.out ?_; intro g5 c5 w5 ho5 f5; have HO5 := hidden ho5; have HB5 := hidden (HB2.out.trans (f5.out.below HSZ.out (fun k e => (HO2.out.lt k e).1))); clear ho5 f5))
          go_roundw
          case rel => exact ⟨j + 1, g5, c5, m + r.n, by omega, by go_num, rfl, by rw [HS1.out, ← HM.out]; exact (rfl : m + r.n = m + r.n), by rw [HC1.out]; exact HO5, HB5⟩
          case measure => simp [intOf]; omega
        · obtain rfl : j = k := by omega
          have d2 : ¬ (j : Int) < (j : Int) := by omega
          rw [HT0.out] at HO2 HM
          go_wp2
          go_ret
          have hm := HM.out
          rw [hm] at HO2 ⊢
          exact ⟨g, c, rfl, HO2.out, HB2.out⟩
end Go.Proofs.Ytbifolpahmeaeaa
