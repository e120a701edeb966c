/- Layer 17, the program: one row mixed into another; a copy; Squeeze. -/
import Derived.Test.YtnjeobijbbjlaaaZ17b
import Derived.Test.YtnjeobijbbjlaaaShelf17
namespace Go.Proofs.Ytnjeobijbbjlaaa
open Go.RowKit
set_option maxHeartbeats 1000000
set_option maxRecDepth 100000
set_option linter.unusedVariables false

/-- a slice that reads so in every later world -/
def Stays (B : Nat) (w : World) (b : Option Addr) (m mc : Nat) (ys : List Int) : Prop := ∀ wx, Below B w wx → Reads wx b m mc ys
theorem Stays.later {B : Nat} {w w' : World} {b : Option Addr} {m mc : Nat} {ys : List Int} (h : Stays B w b m mc ys) (hb : Below B w w') : Stays B w' b m mc ys := fun wx hx => h wx (hb.trans hx)
theorem stays_of {w : World} {b : Option Addr} {m mc : Nat} {ys : List Int} (h : Reads w b m mc ys) : Stays w.heap.size w b m mc ys := fun wx hx => h.later hx
theorem Stays.up {B B' : Nat} {w : World} {b : Option Addr} {m mc : Nat} {ys : List Int} (h : Stays B w b m mc ys) (hB : B ≤ B') : Stays B' w b m mc ys := fun wx hx => h wx (hx.mono hB)
theorem stays_cell {B : Nat} {w : World} {b : Option Addr} {m mc : Nat} {ys : List Int} (h : Stays B w b m mc ys) (h0 : 0 < m) : ∃ x, b = some x ∧ ∀ wx, Below B w wx → ∀ j, j < m → wx.cell? (x.add j) = some (.int .u8 (ys.getD j 0)) := by
  obtain ⟨h1, h2, h3⟩ := h w (Below.refl _ _)
  rcases h3 with ⟨_, h4, _⟩ | ⟨x, rfl, _⟩
  · omega
  · refine ⟨x, rfl, fun wx hx j hj => ?_⟩
    obtain ⟨_, _, h5⟩ := h wx hx
    rcases h5 with ⟨h6, _⟩ | ⟨y, h6, h7⟩
    · cases h6
    · cases h6; exact h7 j hj
theorem row_put {B g n c : Nat} {w : World} {zs : List Int} (h : w.ownsRow B 5 1 (.slice (some ⟨g, 0, none⟩) n c) n (bytesV zs)) (j : Nat) (z : Int) :
    (w.setCell ⟨g, j, none⟩ (.int .u8 z)).ownsRow B 5 1 (.slice (some ⟨g, 0, none⟩) n c) n (bytesV (zs.set j z)) := by
  have := (h.stored j (.int .u8 z)).1
  have e : (bytesV zs).set j (.int .u8 z) = bytesV (zs.set j z) := by simp [bytesV, List.map_set]
  rwa [e] at this
theorem row_len {B n : Nat} {w : World} {v : Value} {zs : List Int} (h : w.ownsRow B 5 1 v n (bytesV zs)) : zs.length = n := by
  have := h.1
  simpa [bytesV] using this
theorem row_base {B g n c : Nat} {w : World} {zs : List Int} (h : w.ownsRow B 5 1 (.slice (some ⟨g, 0, none⟩) n c) n (bytesV zs)) : B ≤ g := (h.lt g rfl).1
set_option maxHeartbeats 4000000 in
theorem mix_any (B n c m mc : Nat) (ao b : Option Addr) (zs ys : List Int) (w : World) (ho : w.ownsRow B 5 1 (.slice ao n c) n (bytesV zs)) (hr : Stays B w b m mc ys) (hn : n ≤ 20000000) (hm : m ≤ 20000000) :
    Calls Try.prog 23 #[.slice ao n c, .slice b m mc] w fun e w' => e = .returned (.tuple #[]) ∧ Hid (w'.ownsRow B 5 1 (.slice ao n c) n (bytesV (rowL ys zs))) ∧ Hid (Below B w w') := by
  have hzl := row_len ho
  have hyl := (hr w (Below.refl _ _)).1
  have HO0 := hidden ho
  have HR := hidden hr
  obtain ⟨M, hM⟩ : ∃ M, min n m = M := ⟨_, rfl⟩
  have M1 : M ≤ n ∧ M ≤ m ∧ (M = n ∨ M = m) := by omega
  have hMe : min (n : Int) (m : Int) = (M : Int) := by omega
  have HEND : Hid (rowL (ys.take M) zs = rowL ys zs) := hidden (rowL_more ys zs M (by omega))
  have HZL := hidden hzl
  have HYL := hidden hyl
  clear ho hr hM hzl hyl
  go_enter Try.func23, Try.ntmps23
  go_upto_region 1 with fail
  try simp only [hMe]
  clear hMe
  go_loopw [10] (fun i w' => ∃ k : Nat, k ≤ M ∧ i = .int .i64 k ∧ Hid (w'.ownsRow B 5 1 (.slice ao n c) n (bytesV (rowL (ys.take k) zs))) ∧ Hid (Below B w w')) (fun i _ => M - (intOf i).toNat)
  case atStart => exact ⟨0, by omega, rfl, hidden (by rw [List.take_zero, rowL_nil]; exact HO0.out), hidden (Below.refl _ _)⟩
  case round =>
    obtain ⟨k, hk, rfl, HO, HB⟩ := hrel
    by_cases hlt : k < M
    · have l1 : (k : Int) < M := by omega
      have l0 : (0 : Int) ≤ k := by omega
      have ln : (k : Int) < n := by omega
      have lm : (k : Int) < m := by omega
      obtain ⟨x, rfl, hx⟩ := stays_cell HR.out (by omega)
      have c2 := hx wr HB.out k (by omega)
      obtain ⟨g, c', hv, _, _⟩ := owned_shape HO.out (by omega)
      simp only [Value.slice.injEq, true_and] at hv
      obtain ⟨rfl, rfl⟩ := hv
      have c1 := owned_cells HO.out k (by omega)
      have c1f := HO.out.frozenAt k
      rw [Nat.zero_add] at c1
      have HO2 := hidden (row_put HO.out k (xb ((rowL (ys.take k) zs).getD k 0) (ys.getD k 0)))
      rw [rowL_set ys zs k (by rw [HYL.out]; omega) (by rw [HZL.out]; omega)] at HO2
      have HG := hidden (row_base HO.out)
      generalize (rowL (ys.take k) zs).getD k 0 = X at *
      generalize ys.getD k 0 = Y at *
      clear HO hx HEND HR HO0
      unfold xb at HO2
      go_upto_region 3 with fail
      go_region
      all_goals
        go_wp2
        go_roundw
        case rel => exact ⟨k + 1, by omega, by first | rfl | go_num, HO2, hidden (HB.out.setCell (p := ⟨g, k, none⟩) HG.out _).drew⟩
        case measure => simp [intOf]; omega
    · obtain rfl : k = M := by omega
      rw [HEND.out] at HO
      clear HEND HO0 HR
      go_wp2
      exact bodyPost_end (v := .tuple #[]) (by simp [results, Try.results23, go_sem]) rfl ⟨rfl, HO, HB⟩
theorem clone_any (a : Option Addr) (n c : Nat) (zs : List Int) (w : World) (h : Reads w a n c zs) (hn : n ≤ 20000000) :
    Calls Try.prog 22 #[.slice a n c] w fun e w' => ∃ a' c', e = .returned (.slice a' n c') ∧ Hid (w'.ownsRow w.heap.size 5 1 (.slice a' n c') n (bytesV zs)) ∧ Hid (Below w.heap.size w w') := by
  cases a with
  | none =>
    obtain ⟨h1, h2, h3⟩ := h
    rcases h3 with ⟨_, rfl, rfl⟩ | ⟨x, h4, _⟩
    · obtain rfl : zs = [] := List.eq_nil_of_length_eq_zero h1
      refine (Try.bytes_Clone_nil 0 0 w).mono ?_
      rintro e w' ⟨rfl, rfl⟩
      exact ⟨none, 0, rfl, hidden (World.ownsRow_nil _ _ _ _), hidden (Below.refl _ _)⟩
    · cases h4
  | some x =>
    obtain ⟨h1, h2, h3⟩ := h
    rcases h3 with ⟨h4, _⟩ | ⟨y, h4, h5⟩
    · cases h4
    · cases h4
      refine (Try.bytes_Clone_at x n c zs w h1 (by omega) h5).mono ?_
      rintro e w' ⟨v', rfl, h6, _, h7⟩
      obtain ⟨a', c', rfl⟩ := own_slice8 h6
      exact ⟨a', c', rfl, hidden h6, hidden h7⟩
end Go.Proofs.Ytnjeobijbbjlaaa
