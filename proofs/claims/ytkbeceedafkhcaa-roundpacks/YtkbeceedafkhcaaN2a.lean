/- Plain facts on numbers as lists of digits to the base 65536, and the contract of the document's trim (package grottoref02). -/
import Derived.Test.YtkbeceedafkhcaaR2a
import Derived.Handy
namespace Go.Proofs.Ytkbeceedafkhcaa
open Go.RowKit
set_option maxHeartbeats 400000

/-- what digits say, the lowest first -/
def nv : List Int → Int
  | [] => 0
  | d :: r => d + 65536 * nv r
def OkD (ds : List Int) : Prop := ∀ d ∈ ds, 0 ≤ d ∧ d ≤ 65535
theorem nv_append (a b : List Int) : nv (a ++ b) = nv a + 65536 ^ a.length * nv b := by
  induction a with
  | nil => simp [nv]
  | cons d r ih =>
    show d + 65536 * nv (r ++ b) = d + 65536 * nv r + 65536 ^ (r.length + 1) * nv b
    rw [ih, Int.pow_succ, Int.mul_add, ← Int.mul_assoc, Int.mul_comm (65536 ^ r.length) 65536]
    omega
theorem OkD.tail {d : Int} {r : List Int} (h : OkD (d :: r)) : OkD r := fun x hx => h x (List.mem_cons_of_mem _ hx)
theorem OkD.at {ds : List Int} (h : OkD ds) (i : Nat) : 0 ≤ ds.getD i 0 ∧ ds.getD i 0 ≤ 65535 := by
  rw [List.getD_eq_getElem?_getD]
  cases hh : ds[i]? with
  | none => simp
  | some c => exact h c (List.mem_of_getElem? hh)
theorem nv_nonneg (ds : List Int) (h : OkD ds) : 0 ≤ nv ds := by
  induction ds with
  | nil => exact Int.le_refl _
  | cons d r ih =>
    have h1 := h d (List.mem_cons_self ..)
    have h2 := ih h.tail
    show 0 ≤ d + 65536 * nv r
    omega
theorem nv_lt (ds : List Int) (h : OkD ds) : nv ds < 65536 ^ ds.length := by
  induction ds with
  | nil => show (0 : Int) < 65536 ^ 0; simp
  | cons d r ih =>
    have h1 := h d (List.mem_cons_self ..)
    have h2 := ih h.tail
    show d + 65536 * nv r < 65536 ^ (r.length + 1)
    rw [Int.pow_succ]
    generalize (65536 : Int) ^ r.length = P at *
    omega
theorem OkD.take {ds : List Int} (h : OkD ds) (n : Nat) : OkD (ds.take n) := fun x hx => h x (List.mem_of_mem_take hx)
theorem take_snoc (ds : List Int) (n : Nat) (h : n < ds.length) : ds.take (n + 1) = ds.take n ++ [ds.getD n 0] := by
  rw [List.take_succ_eq_append_getElem h]
  simp [h]
theorem nv_take_zero (ds : List Int) (n : Nat) (h : n < ds.length) (hz : ds.getD n 0 = 0) : nv (ds.take (n + 1)) = nv (ds.take n) := by
  rw [take_snoc ds n h, nv_append, hz]
  simp [nv]
/-- a slice of digits that reads as ds -/
def RdD (w : World) (a : Option Addr) (len cap : Nat) (ds : List Int) : Prop :=
  ds.length = len ∧ len ≤ cap ∧ ((a = none ∧ len = 0 ∧ cap = 0) ∨ ∃ b off, a = some ⟨b, off, none⟩ ∧ ∀ i, i < len → w.cell? ⟨b, off + i, none⟩ = some (.int .i64 (ds.getD i 0)))
theorem RdD.later {w w' : World} {a : Option Addr} {len cap : Nat} {ds : List Int} (h : RdD w a len cap ds) (hb : Below w.heap.size w w') : RdD w' a len cap ds := by
  obtain ⟨h1, h2, h3⟩ := h
  refine ⟨h1, h2, ?_⟩
  rcases h3 with h3 | ⟨b, off, hx, hc⟩
  · exact .inl h3
  · exact .inr ⟨b, off, hx, fun i hi => cellLater hb (hc i hi)⟩
theorem RdD.take {w : World} {a : Option Addr} {len cap n : Nat} {ds : List Int} (h : RdD w a len cap ds) (hn : n ≤ len) : RdD w a n cap (ds.take n) := by
  obtain ⟨h1, h2, h3⟩ := h
  refine ⟨by simp; omega, by omega, ?_⟩
  rcases h3 with ⟨h3, h4, h5⟩ | ⟨b, off, hx, hc⟩
  · exact .inl ⟨h3, by omega, h5⟩
  · refine .inr ⟨b, off, hx, fun i hi => ?_⟩
    rw [hc i (by omega)]
    simp [List.getD_eq_getElem?_getD, hi]

/-- what trim leaves: no zero at the end, the same number -/
def Trimmed (ds : List Int) (n : Nat) : Prop := n ≤ ds.length ∧ nv (ds.take n) = nv ds ∧ (n = 0 ∨ ds.getD (n - 1) 0 ≠ 0)
theorem trim_any (a : Option Addr) (len cap : Nat) (ds : List Int) (w : World) (hr : RdD w a len cap ds) (hl : (len : Int) ≤ 1000000) :
    Calls Try.prog 46 #[.slice a len cap] w fun r w' => ∃ n, r = .returned (.slice a n cap) ∧ Trimmed ds n ∧ w' = w := by
  obtain ⟨h1, h2, h3⟩ := hr
  rcases h3 with ⟨rfl, rfl, rfl⟩ | ⟨b, off, rfl, hc⟩
  · obtain rfl := List.eq_nil_of_length_eq_zero h1
    go_enter Try.func46, Try.ntmps46
    go_wp2
    go_rounds 1
    go_ret
    exact ⟨0, rfl, ⟨by simp, rfl, .inl rfl⟩, rfl⟩
  · have HC := hidden hc
    clear hc
    go_enter Try.func46, Try.ntmps46
    go_wp2
    go_loop [3] (fun t => ∃ k : Nat, k ≤ len ∧ t = .int .i64 k ∧ nv (ds.take k) = nv ds) (fun t => (intOf t).toNat)
    case atStart => exact ⟨len, Nat.le_refl _, rfl, by rw [List.take_of_length_le (by omega)]⟩
    case round =>
      obtain ⟨k, hk, rfl, hv⟩ := hrel
      have HV := hidden hv
      clear hv
      by_cases hk0 : 0 < k
      · have hk1 : (0 : Int) < (k : Int) := by omega
        have hcell := HC.out (k - 1) (by omega)
        have hnt : ((k : Int) - 1).toNat = k - 1 := by omega
        have hlt : (k : Int) - 1 < (len : Int) := by omega
        have hge : (0 : Int) ≤ (k : Int) - 1 := by omega
        by_cases hz : ds.getD (k - 1) 0 = 0
        · rw [hz] at hcell
          go_wp2
          go_round
          case rel => exact ⟨k - 1, by omega, int_eq (by omega), by rw [← HV.out, ← nv_take_zero ds (k - 1) (by omega) hz, show k - 1 + 1 = k by omega]⟩
          case measure => simp [intOf]; omega
        · have HZ := hidden hz
          generalize ds.getD (k - 1) 0 = D at hcell hz
          have hz2 : (D == 0) = false := by simpa using hz
          clear hz
          go_wp2
          go_ret
          exact ⟨k, rfl, ⟨by omega, HV.out, .inr HZ.out⟩, rfl⟩
      · obtain rfl : k = 0 := by omega
        go_wp2
        go_ret
        exact ⟨0, rfl, ⟨by omega, HV.out, .inl rfl⟩, rfl⟩
end Go.Proofs.Ytkbeceedafkhcaa
