/- Plain facts on numbers as lists of digits to the base 65536, and the contract of the document's trim (package grottoref02). Contracts of the document's NatOf, Small and Bits (package grottoref02): a word as digits, digits as a word, how many bits a number has. Contract of the document's Bits (package grottoref02): how many bits a number has. Contract of the document's Cmp (package grottoref02): which of two numbers is greater. Contract of the document's Plus (package grottoref02): the sum of two numbers. Contract of the document's Minus (package grottoref02): the difference of a number and one that is not above it. Contract of the document's Up (package grottoref02): a number times a power of two. Contract of the document's Quo (package grottoref02): how often one number goes into another, and what is left. -/
import Derived.Test.YtbfbdemknggpkaaGreatDoorR2
import Derived.Handy
import Derived.Laws.OwnMore
import Derived.Laws.AppendOwnNone
import Derived.OwnWalk
import Derived.Deep.QuietTactic
import Derived.BigQuiet
import Derived.WalkSmall
namespace Go.Proofs.YtbfbdemknggpkaaGreatDoor
open Go.RowKit
set_option maxHeartbeats 400000

/-- what digits say, the lowest first -/
def nv : List Int → Int
  | [] => 0
  | d :: r => d + 65536 * nv r
def OkD (ds : List Int) : Prop := ∀ d ∈ ds, 0 ≤ d ∧ d ≤ 65535
theorem nv_append (a b : List Int) : nv (a ++ b) = nv a + 65536 ^ a.length * nv b := by
  induction a with
  | nil => simp [nv]
  | cons d r ih =>
    show d + 65536 * nv (r ++ b) = d + 65536 * nv r + 65536 ^ (r.length + 1) * nv b
    rw [ih, Int.pow_succ, Int.mul_add, ← Int.mul_assoc, Int.mul_comm (65536 ^ r.length) 65536]
    omega
theorem OkD.tail {d : Int} {r : List Int} (h : OkD (d :: r)) : OkD r := fun x hx => h x (List.mem_cons_of_mem _ hx)
theorem OkD.at {ds : List Int} (h : OkD ds) (i : Nat) : 0 ≤ ds.getD i 0 ∧ ds.getD i 0 ≤ 65535 := by
  rw [List.getD_eq_getElem?_getD]
  cases hh : ds[i]? with
  | none => simp
  | some c => exact h c (List.mem_of_getElem? hh)
theorem nv_nonneg (ds : List Int) (h : OkD ds) : 0 ≤ nv ds := by
  induction ds with
  | nil => exact Int.le_refl _
  | cons d r ih =>
    have h1 := h d (List.mem_cons_self ..)
    have h2 := ih h.tail
    show 0 ≤ d + 65536 * nv r
    omega
theorem nv_lt (ds : List Int) (h : OkD ds) : nv ds < 65536 ^ ds.length := by
  induction ds with
  | nil => show (0 : Int) < 65536 ^ 0; simp
  | cons d r ih =>
    have h1 := h d (List.mem_cons_self ..)
    have h2 := ih h.tail
    show d + 65536 * nv r < 65536 ^ (r.length + 1)
    rw [Int.pow_succ]
    generalize (65536 : Int) ^ r.length = P at *
    omega
theorem OkD.take {ds : List Int} (h : OkD ds) (n : Nat) : OkD (ds.take n) := fun x hx => h x (List.mem_of_mem_take hx)
theorem take_snoc (ds : List Int) (n : Nat) (h : n < ds.length) : ds.take (n + 1) = ds.take n ++ [ds.getD n 0] := by
  rw [List.take_succ_eq_append_getElem h]
  simp [h]
theorem nv_take_zero (ds : List Int) (n : Nat) (h : n < ds.length) (hz : ds.getD n 0 = 0) : nv (ds.take (n + 1)) = nv (ds.take n) := by
  rw [take_snoc ds n h, nv_append, hz]
  simp [nv]
/-- a slice of digits that reads as ds -/
def RdD (w : World) (a : Option Addr) (len cap : Nat) (ds : List Int) : Prop :=
  ds.length = len ∧ len ≤ cap ∧ ((a = none ∧ len = 0 ∧ cap = 0) ∨ ∃ b off, a = some ⟨b, off, none⟩ ∧ ∀ i, i < len → w.cell? ⟨b, off + i, none⟩ = some (.int .i64 (ds.getD i 0)))
theorem RdD.later {w w' : World} {a : Option Addr} {len cap : Nat} {ds : List Int} (h : RdD w a len cap ds) (hb : Below w.heap.size w w') : RdD w' a len cap ds := by
  obtain ⟨h1, h2, h3⟩ := h
  refine ⟨h1, h2, ?_⟩
  rcases h3 with h3 | ⟨b, off, hx, hc⟩
  · exact .inl h3
  · exact .inr ⟨b, off, hx, fun i hi => cellLater hb (hc i hi)⟩
theorem RdD.take {w : World} {a : Option Addr} {len cap n : Nat} {ds : List Int} (h : RdD w a len cap ds) (hn : n ≤ len) : RdD w a n cap (ds.take n) := by
  obtain ⟨h1, h2, h3⟩ := h
  refine ⟨by simp; omega, by omega, ?_⟩
  rcases h3 with ⟨h3, h4, h5⟩ | ⟨b, off, hx, hc⟩
  · exact .inl ⟨h3, by omega, h5⟩
  · refine .inr ⟨b, off, hx, fun i hi => ?_⟩
    rw [hc i (by omega)]
    simp [List.getD_eq_getElem?_getD, hi]

/-- what trim leaves: no zero at the end, the same number -/
def Trimmed (ds : List Int) (n : Nat) : Prop := n ≤ ds.length ∧ nv (ds.take n) = nv ds ∧ (n = 0 ∨ ds.getD (n - 1) 0 ≠ 0)
theorem trim_any (a : Option Addr) (len cap : Nat) (ds : List Int) (w : World) (hr : RdD w a len cap ds) (hl : (len : Int) ≤ 1000000) :
    Calls Tryz.prog 74 #[.slice a len cap] w fun r w' => ∃ n, r = .returned (.slice a n cap) ∧ Trimmed ds n ∧ w' = w := by
  obtain ⟨h1, h2, h3⟩ := hr
  rcases h3 with ⟨rfl, rfl, rfl⟩ | ⟨b, off, rfl, hc⟩
  · obtain rfl := List.eq_nil_of_length_eq_zero h1
    go_enter Tryz.func74, Tryz.ntmps74
    go_wp2
    go_rounds 1
    go_ret
    exact ⟨0, rfl, ⟨by simp, rfl, .inl rfl⟩, rfl⟩
  · have HC := hidden hc
    clear hc
    go_enter Tryz.func74, Tryz.ntmps74
    go_wp2
    go_loop [3] (fun t => ∃ k : Nat, k ≤ len ∧ t = .int .i64 k ∧ nv (ds.take k) = nv ds) (fun t => (intOf t).toNat)
    case atStart => exact ⟨len, Nat.le_refl _, rfl, by rw [List.take_of_length_le (by omega)]⟩
    case round =>
      obtain ⟨k, hk, rfl, hv⟩ := hrel
      have HV := hidden hv
      clear hv
      by_cases hk0 : 0 < k
      · have hk1 : (0 : Int) < (k : Int) := by omega
        have hcell := HC.out (k - 1) (by omega)
        have hnt : ((k : Int) - 1).toNat = k - 1 := by omega
        have hlt : (k : Int) - 1 < (len : Int) := by omega
        have hge : (0 : Int) ≤ (k : Int) - 1 := by omega
        by_cases hz : ds.getD (k - 1) 0 = 0
        · rw [hz] at hcell
          go_wp2
          go_round
          case rel => exact ⟨k - 1, by omega, int_eq (by omega), by rw [← HV.out, ← nv_take_zero ds (k - 1) (by omega) hz, show k - 1 + 1 = k by omega]⟩
          case measure => simp [intOf]; omega
        · have HZ := hidden hz
          generalize ds.getD (k - 1) 0 = D at hcell hz
          have hz2 : (D == 0) = false := by simpa using hz
          clear hz
          go_wp2
          go_ret
          exact ⟨k, rfl, ⟨by omega, HV.out, .inr HZ.out⟩, rfl⟩
      · obtain rfl : k = 0 := by omega
        go_wp2
        go_ret
        exact ⟨0, rfl, ⟨by omega, HV.out, .inl rfl⟩, rfl⟩
end Go.Proofs.YtbfbdemknggpkaaGreatDoor
namespace Go.Proofs.YtbfbdemknggpkaaGreatDoor
open Go.RowKit
set_option maxRecDepth 100000
set_option maxHeartbeats 400000

theorem infoI : (Tryz.prog.info? 3).map (fun i => (i.zero, i.size, i.bytes)) = some (some (.int .i64 0), 1, 8) := by kernel_rfl
def digV (ds : List Int) : List Value := ds.map (Value.int .i64)
theorem digV_one (ds : List Int) : ∀ u ∈ digV ds, u.oneCell' = true := by
  intro u hu
  obtain ⟨z, _, rfl⟩ := List.mem_map.1 hu
  rfl
theorem digV_at (ds : List Int) (j : Nat) (h : j < ds.length) : (digV ds)[j]? = some (.int .i64 (ds.getD j 0)) := by simp [digV, h]
theorem digV_append (a b : List Int) : digV a ++ digV b = digV (a ++ b) := by simp [digV]
/-- a block that the call made owns its cells -/
theorem ownsD_new (w : World) (base : Nat) (ds : List Int) (hb : base ≤ w.heap.size) (hm : ds.length ≤ maxLen) :
    (w.alloc (.cells (digV ds).toArray 3)).ownsRow base 3 1 (.slice (some ⟨w.heap.size, 0, none⟩) ds.length ds.length) ds.length (digV ds) := by
  refine ⟨by simp [digV], .inr ⟨w.heap.size, ds.length, (digV ds).toArray, rfl, hb, ?_, Nat.le_refl _, hm, by simp [digV], by rw [Nat.mul_one, List.take_of_length_le (by simp [digV])]⟩⟩
  exact heap_alloc_new _ _
theorem newD_cell (w : World) (ds : List Int) (hm : ds.length ≤ maxLen) (j : Nat) (u : Value) (h : (digV ds)[j]? = some u) :
    (w.alloc (.cells (digV ds).toArray 3)).cell? ((⟨w.heap.size, 0, none⟩ : Addr).add j) = some u :=
  (ownsD_new w 0 ds (Nat.zero_le _) hm).cells (g := w.heap.size) rfl j u h
/-- an owned row of digits reads as the digits -/
theorem rdD_owned {w : World} {base n : Nat} {v : Value} {ds : List Int} (h : w.ownsRow base 3 1 v n (digV ds)) : ∃ a c, v = .slice a n c ∧ RdD w a n c ds ∧ ∀ p, a = some p → base ≤ p.block := by
  have hl : ds.length = n := by have := h.1; simpa [digV] using this
  rcases h.2 with ⟨rfl, rfl⟩ | ⟨g, cap, cur, rfl, hge, _, hnc, _⟩
  · obtain rfl := List.eq_nil_of_length_eq_zero hl
    exact ⟨none, 0, rfl, ⟨rfl, Nat.le_refl _, .inl ⟨rfl, rfl, rfl⟩⟩, fun p h => by cases h⟩
  · refine ⟨some ⟨g, 0, none⟩, cap, rfl, ⟨hl, hnc, .inr ⟨g, 0, rfl, fun i hi => ?_⟩⟩, fun p h => by cases h; exact hge⟩
    rw [Nat.zero_add, h.cellAt i (by omega), digV_at ds i (by omega)]
/-- a call hands back digits of the number N, at most L of them, in memory of its own, and makes at most new memory -/
def NatRet (w : World) (N : Int) (L : Nat) (r : Ending) (w' : World) : Prop :=
  ∃ a len cap ds, r = .returned (.slice a len cap) ∧ RdD w' a len cap ds ∧ OkD ds ∧ nv ds = N ∧ len ≤ L ∧ (len = 0 ∨ ds.getD (len - 1) 0 ≠ 0) ∧ Below w.heap.size w w' ∧ ∀ p, a = some p → w.heap.size ≤ p.block
theorem natOf_any (x : Int) (w : World) (x0 : 0 ≤ x) (x1 : x ≤ 18446744073709551615) :
    Calls Tryz.prog 45 #[.int .u64 x] w fun r w' => NatRet w x 4 r w' := by
  obtain ⟨i0, hi, hz0, hz1, hz2⟩ := info_parts infoI
  go_enter Tryz.func45, Tryz.ntmps45
  go_wp2
  go_loopw [0, 3] (fun t v w' => ∃ (k : Nat) (y : Int) (ds : List Int), k ≤ 4 ∧ t = .int .u64 y ∧ 0 ≤ y ∧ y * 65536 ^ k ≤ 18446744073709551615 ∧ OkD ds ∧ nv ds + 65536 ^ k * y = x ∧ ds.length = k ∧ (k = 0 ∨ 0 < y ∨ ds.getD (k - 1) 0 ≠ 0) ∧ w'.ownsRow w.heap.size 3 1 v k (digV ds) ∧ Below w.heap.size w w') (fun t _ _ => (intOf t).toNat)
  case atStart => exact ⟨0, x, [], by omega, rfl, x0, by simpa using x1, (fun d hd => by cases hd), by simp [nv], rfl, .inl rfl, World.ownsRow_nil _ _ _ _, Below.refl _ _⟩
  case round =>
    obtain ⟨k, y, ds, hk, rfl, hy0, hyb, hok, hv, hlen, htop, hown, hbl⟩ := hrel
    have HTP := hidden htop
    have HO := hidden hown
    have HV := hidden hv
    have HY := hidden hyb
    have HK := hidden hok
    have HLn := hidden hlen
    clear hown hv hyb hok hlen htop
    by_cases hp : 0 < y
    · have hk3 : k ≤ 3 := by
        rcases Nat.lt_or_ge k 4 with h | h
        · omega
        · obtain rfl : k = 4 := by omega
          have h1 := HY.out
          have e : (65536 : Int) ^ 4 = 18446744073709551616 := by decide +kernel
          rw [e] at h1
          omega
      have hy1 : y ≤ 18446744073709551615 := by
        have h1 := HY.out
        have h2 : (1 : Int) ≤ 65536 ^ k := Int.pow_pos (by decide)
        have h3 : y * 1 ≤ y * 65536 ^ k := Int.mul_le_mul_of_nonneg_left h2 hy0
        omega
      have hs := hbl.size
      have HO1 := hidden (HO.out.alloc (.cells #[.int .i64 (y % 65536)] 3))
      have HN1 := hidden (newD_cell wr [y % 65536] (by unfold maxLen; simp))
      have hb1 : Below w.heap.size w (wr.alloc (.cells #[.int .i64 (y % 65536)] 3)) := hbl.alloc hs _
      have HL := hidden HO.out.lt
      go_wp2_with (at_builtin; refine wpList_append_own _ rfl (.tmp 6) (.tmp 10) 59 rfl w.heap.size 3 i0 (.int .i64 0) 1 8 Tryz.underlying59 hi hz0 hz1 hz2 rfl (by decide) _ _ _ rfl HO1.out ⟨wr.heap.size, 0, none⟩ 1 1 (digV [y % 65536]) rfl rfl HN1.out (digV_one _) (by unfold maxLen; omega) (by omega) (by simp; omega) ?_; intro v2 w2 hown2 hgrow2 hiff2; clear hiff2; refine Hid.out ?_)
      have hb2 : Below w.heap.size w w2 := hb1.grown hgrow2 (by simp; omega) (by intro k hk; exact (HL.out k hk).1)
      rw [digV_append] at hown2
      have HO3 := hidden hown2
      clear hown2 hgrow2 HO HO1 HN1 HL hb1
      refine hidden ?_
      go_wp2
      go_roundw
      case rel =>
        refine ⟨k + 1, y / 65536, ds ++ [y % 65536], by omega, rfl, by omega, ?_, ?_, ?_, by simp [HLn.out], ?_, HO3.out, hb2⟩
        · have h1 := HY.out
          rw [Int.pow_succ, Int.mul_comm (65536 ^ k) 65536, ← Int.mul_assoc]
          have h2 : y / 65536 * 65536 ≤ y := by omega
          exact Int.le_trans (Int.mul_le_mul_of_nonneg_right h2 (Int.le_of_lt (Int.pow_pos (by decide)))) h1
        · intro d hd
          rcases List.mem_append.1 hd with h | h
          · exact HK.out d h
          · simp at h; omega
        · rw [nv_append, HLn.out, ← HV.out, Int.pow_succ]
          simp only [nv, Int.mul_zero, Int.add_zero]
          rw [Int.mul_assoc, Int.add_assoc, ← Int.mul_add]
          congr 2
          omega
        · right
          have e : (ds ++ [y % 65536]).getD (k + 1 - 1) 0 = y % 65536 := by
            have := HLn.out
            subst this
            simp
          rw [e]
          omega
      case measure => simp [intOf]; omega
    · obtain rfl : y = 0 := by omega
      obtain ⟨a, c, rfl, hrd, hnw⟩ := rdD_owned HO.out
      have HR := hidden hrd
      have HNW := hidden hnw
      clear hrd hnw
      go_wp2
      go_ret
      refine ⟨a, k, c, ds, rfl, HR.out, HK.out, ?_, hk, ?_, hbl, HNW.out⟩
      rotate_left
      · rcases HTP.out with h | h | h
        · exact .inl h
        · omega
        · exact .inr h
      have := HV.out
      rw [Int.mul_zero, Int.add_zero] at this
      exact this
theorem small_any (a : Option Addr) (len cap : Nat) (ds : List Int) (w : World) (hr : RdD w a len cap ds) (hok : OkD ds) (hl : (len : Int) ≤ 1000000) (hx : nv ds ≤ 18446744073709551615) :
    Calls Tryz.prog 76 #[.slice a len cap] w fun r w' => r = .returned (.int .u64 (nv ds)) ∧ w' = w := by
  obtain ⟨h1, h2, h3⟩ := hr
  have hnn := nv_nonneg ds hok
  -- the digits from place k on
  have hdrop : Hid (∀ k, k < len → nv (ds.drop k) = ds.getD k 0 + 65536 * nv (ds.drop (k + 1))) := hidden fun k hk => by
    rw [List.drop_eq_getElem_cons (by omega)]
    show ds[k] + 65536 * nv (ds.drop (k + 1)) = _
    simp [show k < ds.length by omega]
  have hdb : Hid (∀ k, 0 ≤ nv (ds.drop k) ∧ nv (ds.drop k) ≤ 18446744073709551615) := hidden fun k => by
    have hok2 : OkD (ds.drop k) := fun x hx => hok x (List.mem_of_mem_drop hx)
    refine ⟨nv_nonneg _ hok2, ?_⟩
    have e : nv ds = nv (ds.take k) + 65536 ^ (ds.take k).length * nv (ds.drop k) := by rw [← nv_append, List.take_append_drop]
    have h4 := nv_nonneg _ (hok.take k)
    have h5 : (1 : Int) ≤ 65536 ^ (ds.take k).length := Int.pow_pos (by decide)
    have h6 : 1 * nv (ds.drop k) ≤ 65536 ^ (ds.take k).length * nv (ds.drop k) := Int.mul_le_mul_of_nonneg_right h5 (nv_nonneg _ hok2)
    omega
  have hend : Hid (nv (ds.drop len) = 0) := hidden (by rw [List.drop_eq_nil_of_le (by omega)]; rfl)
  rcases h3 with ⟨rfl, rfl, rfl⟩ | ⟨b, off, rfl, hc⟩
  · obtain rfl := List.eq_nil_of_length_eq_zero h1
    go_enter Tryz.func76, Tryz.ntmps76
    go_wp2
    go_rounds 1
    go_ret
    exact ⟨rfl, rfl⟩
  · have HC := hidden hc
    have HOK := hidden hok
    clear hc hok
    go_enter Tryz.func76, Tryz.ntmps76
    go_wp2
    go_loop [3, 4] (fun x i => ∃ k : Nat, k ≤ len ∧ i = .int .i64 ((k : Int) - 1) ∧ x = .int .u64 (nv (ds.drop k))) (fun _ i => (intOf i + 1).toNat)
    case atStart => exact ⟨len, Nat.le_refl _, rfl, by rw [hend.out]⟩
    case round =>
      obtain ⟨k, hk, rfl, rfl⟩ := hrel
      by_cases hk0 : 0 < k
      · have hk1 : (0 : Int) ≤ (k : Int) - 1 := by omega
        have hcell := HC.out (k - 1) (by omega)
        have hnt : ((k : Int) - 1).toNat = k - 1 := by omega
        have hlt : (k : Int) - 1 < (len : Int) := by omega
        have hd := hdrop.out (k - 1) (by omega)
        rw [show k - 1 + 1 = k by omega] at hd
        have hb1 := hdb.out (k - 1)
        have hb2 := hdb.out k
        have hdg := HOK.out.at (k - 1)
        have HD := hidden hd
        have hb3 : nv (ds.drop k) * 65536 + ds.getD (k - 1) 0 ≤ 18446744073709551615 := by omega
        clear hd hb1
        generalize ds.getD (k - 1) 0 = D at *
        generalize nv (ds.drop k) = X at *
        go_wp2
        go_round
        case rel => exact ⟨k - 1, by omega, int_eq (by omega), int_eq (by rw [HD.out]; omega)⟩
        case measure => simp [intOf]; omega
      · obtain rfl : k = 0 := by omega
        go_wp2
        go_ret
        exact ⟨rfl, rfl⟩
end Go.Proofs.YtbfbdemknggpkaaGreatDoor
namespace Go.Proofs.YtbfbdemknggpkaaGreatDoor
open Go.RowKit
set_option maxRecDepth 100000
set_option maxHeartbeats 400000

theorem pow16 (k : Nat) : (65536 : Int) ^ k = p2 (16 * k) := by
  induction k with
  | zero => rfl
  | succ k ih =>
    rw [Int.pow_succ, ih, show 16 * (k + 1) = 16 * k + 16 by omega, p2_add]
    rfl
/-- the top digit's bits make the number's -/
theorem bits_top (ds : List Int) (hok : OkD ds) (n j : Nat) (hn : ds.length = n + 1) (h0 : 0 < j) (h1 : p2 (j - 1) ≤ ds.getD n 0) (h2 : ds.getD n 0 < p2 j) : IsBits (nv ds) (16 * n + j) := by
  have e : nv ds = nv (ds.take n) + 65536 ^ n * ds.getD n 0 := by
    have h3 := take_snoc ds n (by omega)
    rw [List.take_of_length_le (by omega)] at h3
    have h4 : nv (ds.take n ++ [ds.getD n 0]) = nv (ds.take n) + 65536 ^ n * ds.getD n 0 := by
      rw [nv_append]
      simp [nv, show (ds.take n).length = n by simp; omega]
    rw [← h4, ← h3]
  have l1 := nv_lt _ (hok.take n)
  have l2 := nv_nonneg _ (hok.take n)
  rw [show (ds.take n).length = n by simp; omega] at l1
  rw [pow16] at e l1
  refine .inr ⟨by omega, ?_, ?_⟩
  · rw [show 16 * n + j - 1 = 16 * n + (j - 1) by omega, p2_add]
    have := Int.mul_le_mul_of_nonneg_left h1 (Int.le_of_lt (p2_pos (16 * n)))
    omega
  · rw [p2_add]
    have h3 : ds.getD n 0 + 1 ≤ p2 j := by omega
    have h4 := Int.mul_le_mul_of_nonneg_left h3 (Int.le_of_lt (p2_pos (16 * n)))
    rw [Int.mul_add, Int.mul_one] at h4
    omega
theorem bits_any (a : Option Addr) (len cap : Nat) (ds : List Int) (w : World) (hr : RdD w a len cap ds) (hok : OkD ds) (hl : (len : Int) ≤ 100000) :
    Calls Tryz.prog 39 #[.slice a len cap] w fun r w' => (∃ b : Nat, r = .returned (.int .i64 b) ∧ IsBits (nv ds) b ∧ b ≤ 16 * len) ∧ w' = w := by
  have HR := hidden hr
  have HOK := hidden hok
  have hdl := hr.1
  go_enter Tryz.func39, Tryz.ntmps39
  go_wp2_with fail
  refine (trim_any a len cap ds _ HR.out (by omega)).mono ?_
  rintro r w1 ⟨n, rfl, ht, hw⟩
  subst hw
  have HT := hidden ht
  have hn : n ≤ len := by have := ht.1; omega
  clear ht hr hok
  by_cases hn0 : n = 0
  · subst hn0
    go_wp2
    go_ret
    refine ⟨⟨0, rfl, .inl ⟨?_, rfl⟩, by omega⟩, rfl⟩
    rw [← HT.out.2.1]; rfl
  · have hne : ((n : Int) == 0) = false := by simp; omega
    have hrt := HR.out.take hn
    rcases hrt.2.2 with ⟨_, h, _⟩ | ⟨b, off, rfl, hc⟩
    · omega
    · have hcell := hc (n - 1) (by omega)
      have hnt : ((n : Int) - 1).toNat = n - 1 := by omega
      have hlt : (n : Int) - 1 < (n : Int) := by omega
      have hge : (0 : Int) ≤ (n : Int) - 1 := by omega
      have htop : (ds.take n).getD (n - 1) 0 ≠ 0 := by
        rcases HT.out.2.2 with h | h
        · omega
        · have e : (ds.take n).getD (n - 1) 0 = ds.getD (n - 1) 0 := by simp [List.getD_eq_getElem?_getD, show n - 1 < n by omega]
          rw [e]; exact h
      have hbd := (HOK.out.take n).at (n - 1)
      have hfin : Hid (∀ j : Nat, 0 < j → p2 (j - 1) ≤ (ds.take n).getD (n - 1) 0 → (ds.take n).getD (n - 1) 0 < p2 j → IsBits (nv ds) (16 * (n - 1) + j)) := hidden fun j h0 h1 h2 => by
        rw [← HT.out.2.1]
        exact bits_top (ds.take n) (HOK.out.take n) (n - 1) j (by simp; omega) h0 h1 h2
      clear hc hrt HT
      generalize (ds.take n).getD (n - 1) 0 = T at *
      have p16 : p2 16 = 65536 := by decide
      have HP := hidden p16
      clear p16
      go_wp2
      go_loop [3, 4] (fun x t => ∃ j : Nat, j ≤ 16 ∧ x = .int .i64 (16 * ((n : Int) - 1) + j) ∧ t = .int .i64 (T / p2 j) ∧ (j = 0 ∨ 0 < T / p2 (j - 1))) (fun _ t => (intOf t).toNat)
      case atStart => exact ⟨0, by omega, by simp, by simp [p2], .inl rfl⟩
      case round =>
        obtain ⟨j, hj, rfl, rfl, hq⟩ := hrel
        have hstep := hidden (half_step T j)
        have hq0 : 0 ≤ T / p2 j := Int.ediv_nonneg hbd.1 (Int.le_of_lt (p2_pos j))
        have hq1 : T / p2 j ≤ 65535 := Int.le_trans (Int.ediv_le_self _ hbd.1) hbd.2
        by_cases hp : 0 < T / p2 j
        · have hj15 : j ≤ 15 := by
            rcases Nat.lt_or_ge j 16 with h | h
            · omega
            · obtain rfl : j = 16 := by omega
              have := div_pos_le T 16 hp
              rw [HP.out] at this
              omega
          have HQ : Hid (∃ Y, Y = T / p2 j ∧ 0 < Y) := ⟨_, rfl, hp⟩
          generalize T / p2 j = X at hq0 hq1 hp hstep ⊢
          go_wp2
          go_round
          case rel => exact ⟨j + 1, by omega, int_eq (by omega), by rw [hstep.out], .inr (by obtain ⟨Y, rfl, hY⟩ := HQ.out; simpa using hY)⟩
          case measure => simp [intOf]; omega
        · have hz : T / p2 j = 0 := by omega
          have hj0 : 0 < j := by
            rcases hq with h | h
            · subst h
              have : T / p2 0 = T := by simp [p2]
              omega
            · rcases Nat.eq_zero_or_pos j with h' | h'
              · subst h'; simp [p2] at h; have : T / p2 0 = T := by simp [p2]
                omega
              · exact h'
          have h1 : p2 (j - 1) ≤ T := by
            rcases hq with h | h
            · omega
            · exact div_pos_le T (j - 1) h
          have HF := hidden (hfin.out j hj0 h1 (div_zero_lt T j hz))
          clear hfin h1
          rw [hz]
          go_wp2
          go_ret
          exact ⟨⟨16 * (n - 1) + j, ret_int (by omega), HF.out, by omega⟩, rfl⟩
end Go.Proofs.YtbfbdemknggpkaaGreatDoor
namespace Go.Proofs.YtbfbdemknggpkaaGreatDoor
open Go.RowKit
set_option maxRecDepth 100000
set_option maxHeartbeats 400000

def cmpI (a b : Int) : Int := if a < b then -1 else if b < a then 1 else 0
theorem nv_split (ds : List Int) (k : Nat) (h : k ≤ ds.length) : nv ds = nv (ds.take k) + 65536 ^ k * nv (ds.drop k) := by
  have e := nv_append (ds.take k) (ds.drop k)
  rw [List.take_append_drop, show (ds.take k).length = k by simp; omega] at e
  exact e
theorem OkD.drop {ds : List Int} (h : OkD ds) (n : Nat) : OkD (ds.drop n) := fun x hx => h x (List.mem_of_mem_drop hx)
theorem nv_drop_step (ds : List Int) (k : Nat) (h : k < ds.length) : nv (ds.drop k) = ds.getD k 0 + 65536 * nv (ds.drop (k + 1)) := by
  rw [List.drop_eq_getElem_cons h]
  show ds[k] + 65536 * nv (ds.drop (k + 1)) = _
  simp [h]
/-- where the digits above are alike, the first that differs tells -/
theorem cmp_digit (a b : List Int) (ha : OkD a) (hb : OkD b) (k : Nat) (hl : a.length = b.length) (hk : k < a.length) (he : nv (a.drop (k + 1)) = nv (b.drop (k + 1))) (hd : a.getD k 0 < b.getD k 0) : nv a < nv b := by
  have h1 := nv_split a k (by omega)
  have h2 := nv_split b k (by omega)
  have l1 := nv_lt _ (ha.take k)
  rw [show (a.take k).length = k by simp; omega] at l1
  have l2 := nv_nonneg _ (hb.take k)
  have s1 := nv_drop_step a k hk
  have s2 := nv_drop_step b k (by omega)
  have h3 : nv (a.drop k) + 1 ≤ nv (b.drop k) := by omega
  have h4 := Int.mul_le_mul_of_nonneg_left h3 (Int.le_of_lt (show (0 : Int) < 65536 ^ k from Int.pow_pos (by decide)))
  rw [Int.mul_add, Int.mul_one] at h4
  omega
/-- fewer digits, the top one not 0: a smaller number -/
theorem cmp_len (a b : List Int) (ha : OkD a) (hb : OkD b) (hl : a.length < b.length) (ht : b.getD (b.length - 1) 0 ≠ 0) : nv a < nv b := by
  have l1 := nv_lt a ha
  have h2 := nv_split b (b.length - 1) (by omega)
  have l2 := nv_nonneg _ (hb.take (b.length - 1))
  have s2 := nv_drop_step b (b.length - 1) (by omega)
  have l3 := nv_nonneg _ (hb.drop (b.length - 1 + 1))
  have l4 := hb.at (b.length - 1)
  have h3 : 1 ≤ nv (b.drop (b.length - 1)) := by omega
  have h4 := Int.mul_le_mul_of_nonneg_left h3 (Int.le_of_lt (show (0 : Int) < 65536 ^ (b.length - 1) from Int.pow_pos (by decide)))
  have h5 : (65536 : Int) ^ a.length ≤ 65536 ^ (b.length - 1) := by
    rw [pow16, pow16]; exact p2_mono (by omega)
  omega
theorem trimmed_top (ds : List Int) (n : Nat) (h : Trimmed ds n) : (ds.take n).length = n ∧ nv (ds.take n) = nv ds ∧ (0 < n → (ds.take n).getD ((ds.take n).length - 1) 0 ≠ 0) := by
  obtain ⟨h1, h2, h3⟩ := h
  have hl : (ds.take n).length = n := by simp; omega
  refine ⟨hl, h2, fun h0 => ?_⟩
  rw [hl]
  rcases h3 with h | h
  · omega
  · have e : (ds.take n).getD (n - 1) 0 = ds.getD (n - 1) 0 := by simp [List.getD_eq_getElem?_getD, show n - 1 < n by omega]
    rw [e]; exact h
theorem cmp_any (a1 a2 : Option Addr) (l1 c1 l2 c2 : Nat) (d1 d2 : List Int) (w : World) (r1 : RdD w a1 l1 c1 d1) (r2 : RdD w a2 l2 c2 d2) (k1 : OkD d1) (k2 : OkD d2) (hl1 : (l1 : Int) ≤ 100000) (hl2 : (l2 : Int) ≤ 100000) :
    Calls Tryz.prog 50 #[.slice a1 l1 c1, .slice a2 l2 c2] w fun r w' => r = .returned (.int .i64 (cmpI (nv d1) (nv d2))) ∧ Below w.heap.size w w' := by
  have R1 := hidden r1
  have R2 := hidden r2
  have K1 := hidden k1
  have K2 := hidden k2
  have e1 := r1.1
  have e2 := r2.1
  clear r1 r2 k1 k2
  go_enter Tryz.func50, Tryz.ntmps50
  go_wp2_with fail
  refine (trim_any a1 l1 c1 d1 _ R1.out (by omega)).mono ?_
  rintro r w1 ⟨n1, rfl, ht1, hw⟩
  subst hw
  go_wp2_with fail
  refine (trim_any a2 l2 c2 d2 _ R2.out (by omega)).mono ?_
  rintro r w1 ⟨n2, rfl, ht2, hw⟩
  subst hw
  have hn1 : n1 ≤ l1 := by have := ht1.1; omega
  have hn2 : n2 ≤ l2 := by have := ht2.1; omega
  obtain ⟨q1, q2, q3⟩ := trimmed_top d1 n1 ht1
  obtain ⟨p1, p2', p3⟩ := trimmed_top d2 n2 ht2
  have T1 := hidden (R1.out.take hn1)
  have T2 := hidden (R2.out.take hn2)
  have O1 := hidden (K1.out.take n1)
  have O2 := hidden (K2.out.take n2)
  have Q1 := hidden q1
  have Q2 := hidden q2
  have Q3 := hidden q3
  have P1 := hidden p1
  have P2 := hidden p2'
  have P3 := hidden p3
  clear q1 q2 q3 p1 p2' p3 ht1 ht2 R1 R2 K1 K2 e1 e2
  generalize d1.take n1 = A at *
  generalize d2.take n2 = B at *
  by_cases hne : n1 = n2
  case neg =>
    have hb1 : ((n1 : Int) != (n2 : Int)) = true := by simp; omega
    by_cases hlt : n1 < n2
    · have hlt2 : (n1 : Int) < (n2 : Int) := by omega
      have HF : Hid (cmpI (nv d1) (nv d2) = -1) := hidden (by
        have h1 := cmp_len A B O1.out O2.out (by rw [Q1.out, P1.out]; exact hlt) (P3.out (by omega))
        rw [Q2.out, P2.out] at h1
        unfold cmpI; rw [if_pos h1])
      clear T1 T2 O1 O2 Q1 Q2 Q3 P1 P2 P3
      go_wp2
      go_ret
      exact ⟨ret_int HF.out.symm, Below.refl _ _⟩
    · have hlt2 : ¬ (n1 : Int) < (n2 : Int) := by omega
      have HF : Hid (cmpI (nv d1) (nv d2) = 1) := hidden (by
        have h1 := cmp_len B A O2.out O1.out (by rw [Q1.out, P1.out]; omega) (Q3.out (by omega))
        rw [Q2.out, P2.out] at h1
        unfold cmpI; rw [if_neg (by omega), if_pos h1])
      clear T1 T2 O1 O2 Q1 Q2 Q3 P1 P2 P3
      go_wp2
      go_ret
      exact ⟨ret_int HF.out.symm, Below.refl _ _⟩
  subst hne
  have hb1 : ((n1 : Int) != (n1 : Int)) = false := by simp
  by_cases hn0 : n1 = 0
  · subst hn0
    have HF : Hid (cmpI (nv d1) (nv d2) = 0) := hidden (by
      rw [← Q2.out, ← P2.out, List.eq_nil_of_length_eq_zero Q1.out, List.eq_nil_of_length_eq_zero P1.out]; rfl)
    clear T1 T2 O1 O2 Q1 Q2 Q3 P1 P2 P3
    go_wp2
    go_rounds 1
    go_ret
    exact ⟨ret_int HF.out.symm, Below.refl _ _⟩
  · rcases T1.out.2.2 with ⟨_, h, _⟩ | ⟨b1, o1, rfl, hc1⟩
    · omega
    rcases T2.out.2.2 with ⟨_, h, _⟩ | ⟨b2, o2, rfl, hc2⟩
    · omega
    have C1 := hidden hc1
    have C2 := hidden hc2
    have hlen : Hid (A.length = n1 ∧ B.length = n1) := ⟨Q1.out, P1.out⟩
    clear hc1 hc2 T1 T2 Q1 P1 Q3 P3
    go_wp2
    go_loopw [5] (fun i wr => ∃ k : Nat, k ≤ n1 ∧ i = .int .i64 ((k : Int) - 1) ∧ nv (A.drop k) = nv (B.drop k) ∧ Below w1.heap.size w1 wr) (fun i _ => (intOf i + 1).toNat)
    case atStart => exact ⟨n1, Nat.le_refl _, rfl, by rw [List.drop_eq_nil_of_le (by have := hlen.out.1; omega), List.drop_eq_nil_of_le (by have := hlen.out.2; omega)], Below.refl _ _⟩
    case round =>
      obtain ⟨k, hk, rfl, heq, hbl⟩ := hrel
      have HE := hidden heq
      clear heq
      by_cases hk0 : 0 < k
      · have hk1 : (0 : Int) ≤ (k : Int) - 1 := by omega
        have hlt : (k : Int) - 1 < (n1 : Int) := by omega
        have hnt : ((k : Int) - 1).toNat = k - 1 := by omega
        have g1 := cellLater hbl (C1.out (k - 1) (by omega))
        have g2 := cellLater hbl (C2.out (k - 1) (by omega))
        have HD1 := hidden (cmp_digit A B O1.out O2.out (k - 1) (by have := hlen.out; omega) (by have := hlen.out; omega) (by rw [show k - 1 + 1 = k by omega]; exact HE.out))
        have HD2 := hidden (cmp_digit B A O2.out O1.out (k - 1) (by have := hlen.out; omega) (by have := hlen.out; omega) (by rw [show k - 1 + 1 = k by omega]; exact HE.out.symm))
        have HS1 := hidden (nv_drop_step A (k - 1) (by have := hlen.out; omega))
        have HS2 := hidden (nv_drop_step B (k - 1) (by have := hlen.out; omega))
        generalize A.getD (k - 1) 0 = X at g1 HD1 HD2 HS1
        generalize B.getD (k - 1) 0 = Y at g2 HD1 HD2 HS2
        by_cases hxy : X < Y
        · have HF : Hid (cmpI (nv d1) (nv d2) = -1) := hidden (by
            have h := HD1.out hxy
            rw [Q2.out, P2.out] at h
            unfold cmpI; rw [if_pos h])
          go_wp2
          go_quiet (fail)
          go_wp2
          go_ret
          exact ⟨ret_int HF.out.symm, by first | exact below_drewN hbl _ | exact below_drewN (below_drewN hbl _) _⟩
        by_cases hyx : Y < X
        · have HF : Hid (cmpI (nv d1) (nv d2) = 1) := hidden (by
            have h := HD2.out hyx
            rw [Q2.out, P2.out] at h
            unfold cmpI; rw [if_neg (by omega), if_pos h])
          go_wp2
          go_quiet (fail)
          go_wp2
          go_quiet (fail)
          go_wp2
          go_ret
          exact ⟨ret_int HF.out.symm, by first | exact below_drewN hbl _ | exact below_drewN (below_drewN hbl _) _⟩
        · have HXY : Hid (X = Y) := hidden (by omega)
          go_wp2
          go_quiet (fail)
          go_wp2
          go_quiet (fail)
          go_wp2
          go_roundw
          case rel =>
            refine ⟨k - 1, by omega, int_eq (by omega), ?_, below_drewN hbl _⟩
            rw [HS1.out, HS2.out, show k - 1 + 1 = k by omega, HE.out, HXY.out]
          case measure => simp [intOf]; omega
      · obtain rfl : k = 0 := by omega
        have HF : Hid (cmpI (nv d1) (nv d2) = 0) := hidden (by
          have h := HE.out
          rw [List.drop_zero, List.drop_zero, Q2.out, P2.out] at h
          rw [h]; unfold cmpI; rw [if_neg (by omega), if_neg (by omega)])
        go_wp2
        go_ret
        exact ⟨ret_int HF.out.symm, hbl⟩
end Go.Proofs.YtbfbdemknggpkaaGreatDoor
namespace Go.Proofs.YtbfbdemknggpkaaGreatDoor
open Go.RowKit
set_option maxRecDepth 100000
set_option maxHeartbeats 1000000

theorem nv_take_step (ds : List Int) (k : Nat) : nv (ds.take (k + 1)) = nv (ds.take k) + 65536 ^ k * ds.getD k 0 := by
  by_cases h : k < ds.length
  · rw [take_snoc ds k h, nv_append, show (ds.take k).length = k by simp; omega]
    simp [nv]
  · rw [List.take_of_length_le (by omega), List.take_of_length_le (by omega), List.getD_eq_getElem?_getD, List.getElem?_eq_none (by omega)]
    simp
theorem plus_step (P a b os x y c t : Int) (h : os + P * c = a + b) (ht : t = c + x + y) : os + P * (t % 65536) + P * 65536 * (t / 65536) = a + P * x + (b + P * y) := by
  have e : t % 65536 + 65536 * (t / 65536) = t := by omega
  have e2 : os + P * (t % 65536) + P * 65536 * (t / 65536) = os + P * (t % 65536 + 65536 * (t / 65536)) := by rw [Int.mul_add, Int.mul_assoc]; omega
  rw [e2, e, ht, Int.mul_add, Int.mul_add]
  omega
/-- what the loop of Plus holds ahead of round k -/
def PlusAt (A B : List Int) (k : Nat) (os : List Int) (c : Int) : Prop :=
  OkD os ∧ os.length = k ∧ 0 ≤ c ∧ c ≤ 1 ∧ nv os + 65536 ^ k * c = nv (A.take k) + nv (B.take k)
theorem PlusAt.step {A B : List Int} {k : Nat} {os : List Int} {c t : Int} (h : PlusAt A B k os c) (ha : OkD A) (hb : OkD B) (ht : t = c + A.getD k 0 + B.getD k 0) :
    PlusAt A B (k + 1) (os ++ [t % 65536]) (t / 65536) := by
  obtain ⟨h1, h2, h3, h4, h5⟩ := h
  have a1 := ha.at k
  have b1 := hb.at k
  refine ⟨?_, by simp [h2], by omega, by omega, ?_⟩
  · intro d hd
    rcases List.mem_append.1 hd with h | h
    · exact h1 d h
    · simp at h; omega
  · rw [nv_take_step, nv_take_step, nv_append, h2, Int.pow_succ]
    simp only [nv, Int.mul_zero, Int.add_zero]
    exact plus_step _ _ _ _ _ _ _ _ h5 ht
theorem trimmed_or {ds : List Int} {n : Nat} (h : Trimmed ds n) : n = 0 ∨ (ds.take n).getD (n - 1) 0 ≠ 0 := by
  obtain ⟨h1, _, h3⟩ := trimmed_top ds n h
  rcases Nat.eq_zero_or_pos n with h | h
  · exact .inl h
  · have := h3 h
    rw [h1] at this
    exact .inr this
theorem plus_any (a1 a2 : Option Addr) (l1 c1 l2 c2 : Nat) (d1 d2 : List Int) (w : World) (r1 : RdD w a1 l1 c1 d1) (r2 : RdD w a2 l2 c2 d2) (k1 : OkD d1) (k2 : OkD d2) (hl1 : (l1 : Int) ≤ 50000) (hl2 : (l2 : Int) ≤ 50000) :
    Calls Tryz.prog 49 #[.slice a1 l1 c1, .slice a2 l2 c2] w fun r w' => NatRet w (nv d1 + nv d2) (max l1 l2 + 1) r w' := by
  obtain ⟨i0, hi, hz0, hz1, hz2⟩ := info_parts infoI
  have R1 := hidden r1
  have R2 := hidden r2
  have K1 := hidden k1
  have K2 := hidden k2
  have e1 := hidden r1.1
  have e2 := hidden r2.1
  have hM1 : l1 ≤ max l1 l2 := Nat.le_max_left _ _
  have hM2 : l2 ≤ max l1 l2 := Nat.le_max_right _ _
  have hM3 : max l1 l2 = l1 ∨ max l1 l2 = l2 := by omega
  generalize max l1 l2 = M at *
  clear r1 r2 k1 k2
  go_enter Tryz.func49, Tryz.ntmps49
  go_wp2
  go_loopw [5, 6, 7, 8] (fun v cc i t wr => ∃ (k : Nat) (os : List Int) (c : Int), k ≤ M ∧ i = .int .i64 k ∧ cc = .int .i64 c ∧ PlusAt d1 d2 k os c ∧ wr.ownsRow w.heap.size 3 1 v k (digV os) ∧ Below w.heap.size w wr) (fun _ _ i _ _ => M - (intOf i).toNat)
  case atStart => exact ⟨0, [], 0, by omega, rfl, rfl, ⟨(fun d hd => by cases hd), rfl, by omega, by omega, by simp [nv]⟩, World.ownsRow_nil _ _ _ _, Below.refl _ _⟩
  case round =>
    obtain ⟨k, os, c, hk, rfl, rfl, hp, hown, hbl⟩ := hrel
    have HP := hidden hp
    have HO := hidden hown
    have hc0 := hp.2.2.1
    have hc1 := hp.2.2.2.1
    clear hown hp
    have hs := hbl.size
    have x1 := K1.out.at k
    have x2 := K2.out.at k
    have hkb : (k : Int) ≤ 50000 := by omega
    by_cases hlt : k < M
    · have HL := hidden HO.out.lt
      have HST := hidden (fun t h => HP.out.step (t := t) K1.out K2.out h)
      have hcase : (k < l1 ∧ k < l2) ∨ (k < l1 ∧ ¬ k < l2) ∨ (¬ k < l1 ∧ k < l2) := by omega
      have z1 : Hid (¬ k < l1 → d1.getD k 0 = 0) := hidden fun h => by rw [List.getD_eq_getElem?_getD, List.getElem?_eq_none (by have := e1.out; omega)]; rfl
      have z2 : Hid (¬ k < l2 → d2.getD k 0 = 0) := hidden fun h => by rw [List.getD_eq_getElem?_getD, List.getElem?_eq_none (by have := e2.out; omega)]; rfl
      rcases hcase with ⟨g1, g2⟩ | ⟨g1, g2⟩ | ⟨g1, g2⟩
      · rcases R1.out.2.2 with ⟨_, h, _⟩ | ⟨b1, o1, rfl, hcc1⟩
        · omega
        rcases R2.out.2.2 with ⟨_, h, _⟩ | ⟨b2, o2, rfl, hcc2⟩
        · omega
        have q1 := cellLater hbl (hcc1 k g1)
        have q2 := cellLater hbl (hcc2 k g2)
        have i1 : (k : Int) < (l1 : Int) := by omega
        have i2 : (k : Int) < (l2 : Int) := by omega
        clear hcc1 hcc2 z1 z2
        generalize d1.getD k 0 = X at *
        generalize d2.getD k 0 = Y at *
        have HO1 := hidden (HO.out.alloc (.cells #[.int .i64 ((c + X + Y) % 65536)] 3))
        have HN1 := hidden (newD_cell wr [(c + X + Y) % 65536] (by unfold maxLen; simp))
        have hb1 : Below w.heap.size w (wr.alloc (.cells #[.int .i64 ((c + X + Y) % 65536)] 3)) := hbl.alloc hs _
        have HT := hidden (HST.out (c + X + Y) (rfl))
        clear HST HP
        go_wp2_with (at_builtin; refine wpList_append_own _ rfl (.tmp 42) (.tmp 45) 59 rfl w.heap.size 3 i0 (.int .i64 0) 1 8 Tryz.underlying59 hi hz0 hz1 hz2 rfl (by decide) _ _ _ rfl HO1.out ⟨wr.heap.size, 0, none⟩ 1 1 (digV [(c + X + Y) % 65536]) rfl rfl HN1.out (digV_one _) (by unfold maxLen; omega) (by omega) (by simp; omega) ?_; intro v2 w2 hown2 hgrow2 hiff2; clear hiff2; refine Hid.out ?_)
        have hb2 : Below w.heap.size w w2 := hb1.grown hgrow2 (by simp; omega) (by intro k hk; exact (HL.out k hk).1)
        rw [digV_append] at hown2
        have HO3 := hidden hown2
        clear hown2 hgrow2 HO HO1 HN1 HL hb1
        refine hidden ?_
        go_wp2
        go_roundw
        case rel => exact ⟨k + 1, os ++ [(c + X + Y) % 65536], (c + X + Y) / 65536, by omega, by go_num, rfl, HT.out, HO3.out, hb2⟩
        case measure => simp [intOf]; omega
      · rcases R1.out.2.2 with ⟨_, h, _⟩ | ⟨b1, o1, rfl, hcc1⟩
        · omega
        have q1 := cellLater hbl (hcc1 k g1)
        have i1 : (k : Int) < (l1 : Int) := by omega
        have i2 : ¬ (k : Int) < (l2 : Int) := by omega
        have hY := hidden (z2.out g2)
        clear hcc1 z1 z2
        generalize d1.getD k 0 = X at *
        generalize d2.getD k 0 = Y at *
        have HO1 := hidden (HO.out.alloc (.cells #[.int .i64 ((c + X) % 65536)] 3))
        have HN1 := hidden (newD_cell wr [(c + X) % 65536] (by unfold maxLen; simp))
        have hb1 : Below w.heap.size w (wr.alloc (.cells #[.int .i64 ((c + X) % 65536)] 3)) := hbl.alloc hs _
        have HT := hidden (HST.out (c + X) (by rw [hY.out]; omega))
        clear HST HP
        go_wp2_with (at_builtin; refine wpList_append_own _ rfl (.tmp 42) (.tmp 45) 59 rfl w.heap.size 3 i0 (.int .i64 0) 1 8 Tryz.underlying59 hi hz0 hz1 hz2 rfl (by decide) _ _ _ rfl HO1.out ⟨wr.heap.size, 0, none⟩ 1 1 (digV [(c + X) % 65536]) rfl rfl HN1.out (digV_one _) (by unfold maxLen; omega) (by omega) (by simp; omega) ?_; intro v2 w2 hown2 hgrow2 hiff2; clear hiff2; refine Hid.out ?_)
        have hb2 : Below w.heap.size w w2 := hb1.grown hgrow2 (by simp; omega) (by intro k hk; exact (HL.out k hk).1)
        rw [digV_append] at hown2
        have HO3 := hidden hown2
        clear hown2 hgrow2 HO HO1 HN1 HL hb1
        refine hidden ?_
        go_wp2
        go_roundw
        case rel => exact ⟨k + 1, os ++ [(c + X) % 65536], (c + X) / 65536, by omega, by go_num, rfl, HT.out, HO3.out, hb2⟩
        case measure => simp [intOf]; omega
      · rcases R2.out.2.2 with ⟨_, h, _⟩ | ⟨b2, o2, rfl, hcc2⟩
        · omega
        have q2 := cellLater hbl (hcc2 k g2)
        have i1 : ¬ (k : Int) < (l1 : Int) := by omega
        have i2 : (k : Int) < (l2 : Int) := by omega
        have hX := hidden (z1.out g1)
        clear hcc2 z1 z2
        generalize d1.getD k 0 = X at *
        generalize d2.getD k 0 = Y at *
        have HO1 := hidden (HO.out.alloc (.cells #[.int .i64 ((c + Y) % 65536)] 3))
        have HN1 := hidden (newD_cell wr [(c + Y) % 65536] (by unfold maxLen; simp))
        have hb1 : Below w.heap.size w (wr.alloc (.cells #[.int .i64 ((c + Y) % 65536)] 3)) := hbl.alloc hs _
        have HT := hidden (HST.out (c + Y) (by rw [hX.out]; omega))
        clear HST HP
        go_wp2_with (at_builtin; refine wpList_append_own _ rfl (.tmp 42) (.tmp 45) 59 rfl w.heap.size 3 i0 (.int .i64 0) 1 8 Tryz.underlying59 hi hz0 hz1 hz2 rfl (by decide) _ _ _ rfl HO1.out ⟨wr.heap.size, 0, none⟩ 1 1 (digV [(c + Y) % 65536]) rfl rfl HN1.out (digV_one _) (by unfold maxLen; omega) (by omega) (by simp; omega) ?_; intro v2 w2 hown2 hgrow2 hiff2; clear hiff2; refine Hid.out ?_)
        have hb2 : Below w.heap.size w w2 := hb1.grown hgrow2 (by simp; omega) (by intro k hk; exact (HL.out k hk).1)
        rw [digV_append] at hown2
        have HO3 := hidden hown2
        clear hown2 hgrow2 HO HO1 HN1 HL hb1
        refine hidden ?_
        go_wp2
        go_roundw
        case rel => exact ⟨k + 1, os ++ [(c + Y) % 65536], (c + Y) / 65536, by omega, by go_num, rfl, HT.out, HO3.out, hb2⟩
        case measure => simp [intOf]; omega
    · obtain rfl : k = M := by omega
      have i1 : ¬ (k : Int) < (l1 : Int) := by omega
      have i2 : ¬ (k : Int) < (l2 : Int) := by omega
      have HF : Hid (OkD (os ++ [c]) ∧ nv (os ++ [c]) = nv d1 + nv d2 ∧ (os ++ [c]).length = k + 1) := hidden (by
        obtain ⟨h1, h2, h3, h4, h5⟩ := HP.out
        refine ⟨?_, ?_, by simp [h2]⟩
        · intro d hd
          rcases List.mem_append.1 hd with h | h
          · exact h1 d h
          · simp at h; omega
        · rw [List.take_of_length_le (by have := e1.out; omega), List.take_of_length_le (by have := e2.out; omega)] at h5
          rw [nv_append, h2]
          simp only [nv, Int.mul_zero, Int.add_zero]
          exact h5)
      have HO1 := hidden (HO.out.alloc (.cells #[.int .i64 c] 3))
      have HN1 := hidden (newD_cell wr [c] (by unfold maxLen; simp))
      have hb1 : Below w.heap.size w (wr.alloc (.cells #[.int .i64 c] 3)) := hbl.alloc hs _
      have HL := hidden HO.out.lt
      clear HP R1 R2 K1 K2 x1 x2 e1 e2
      go_wp2_with (at_builtin; refine wpList_append_own _ rfl (.tmp 49) (.tmp 51) 59 rfl w.heap.size 3 i0 (.int .i64 0) 1 8 Tryz.underlying59 hi hz0 hz1 hz2 rfl (by decide) _ _ _ rfl HO1.out ⟨wr.heap.size, 0, none⟩ 1 1 (digV [c]) rfl rfl HN1.out (digV_one _) (by unfold maxLen; omega) (by omega) (by simp; omega) ?_; intro v2 w2 hown2 hgrow2 hiff2; clear hiff2; refine Hid.out ?_)
      have hb2 : Below w.heap.size w w2 := hb1.grown hgrow2 (by simp; omega) (by intro k hk; exact (HL.out k hk).1)
      rw [digV_append] at hown2
      obtain ⟨a, cp, rfl, hrd, hnw⟩ := rdD_owned hown2
      have HNW := hidden hnw
      clear hnw
      have HR := hidden hrd
      clear hown2 hgrow2 HO HO1 HN1 HL hb1 hrd
      refine hidden ?_
      go_wp2_with fail
      refine (trim_any a (k + 1) cp (os ++ [c]) _ HR.out (by omega)).mono ?_
      rintro r w3 ⟨n, rfl, ht, hw⟩
      obtain rfl := hw.symm
      have hn : n ≤ k + 1 := by have := ht.1; have := HF.out.2.2; omega
      have HA : Hid (RdD w2 a n cp ((os ++ [c]).take n) ∧ OkD ((os ++ [c]).take n) ∧ nv ((os ++ [c]).take n) = nv d1 + nv d2 ∧ (n = 0 ∨ ((os ++ [c]).take n).getD (n - 1) 0 ≠ 0)) := ⟨HR.out.take hn, HF.out.1.take n, ht.2.1.trans HF.out.2.1, trimmed_or ht⟩
      clear ht HF HR
      go_wp2
      go_ret
      exact ⟨a, n, cp, _, rfl, HA.out.1, HA.out.2.1, HA.out.2.2.1, hn, HA.out.2.2.2, hb2, HNW.out⟩
end Go.Proofs.YtbfbdemknggpkaaGreatDoor
namespace Go.Proofs.YtbfbdemknggpkaaGreatDoor
open Go.RowKit
set_option maxRecDepth 100000
set_option maxHeartbeats 1000000

theorem minus_step (P a b os x y c t u c' : Int) (h : os - P * c = a - b) (ht : t = x - c - y) (hu : u = t + 65536 * c') : os + P * u - P * 65536 * c' = a + P * x - (b + P * y) := by
  have e : os + P * u - P * 65536 * c' = os + P * (u - 65536 * c') := by rw [Int.mul_sub, Int.mul_assoc]; omega
  rw [e, hu, show t + 65536 * c' - 65536 * c' = t by omega, ht, Int.mul_sub, Int.mul_sub]
  omega
/-- what the loop of Minus holds ahead of round k -/
def MinusAt (A B : List Int) (k : Nat) (os : List Int) (c : Int) : Prop :=
  OkD os ∧ os.length = k ∧ 0 ≤ c ∧ c ≤ 1 ∧ nv os - 65536 ^ k * c = nv (A.take k) - nv (B.take k)
theorem MinusAt.step {A B : List Int} {k : Nat} {os : List Int} {c t u c' : Int} (h : MinusAt A B k os c) (ht : t = A.getD k 0 - c - B.getD k 0) (hu : u = t + 65536 * c') (u0 : 0 ≤ u) (u1 : u ≤ 65535) (c0 : 0 ≤ c') (c1 : c' ≤ 1) :
    MinusAt A B (k + 1) (os ++ [u]) c' := by
  obtain ⟨h1, h2, h3, h4, h5⟩ := h
  refine ⟨?_, by simp [h2], c0, c1, ?_⟩
  · intro d hd
    rcases List.mem_append.1 hd with h | h
    · exact h1 d h
    · simp at h; omega
  · rw [nv_take_step, nv_take_step, nv_append, h2, Int.pow_succ]
    simp only [nv, Int.mul_zero, Int.add_zero]
    exact minus_step _ _ _ _ _ _ _ _ _ _ h5 ht hu
theorem minus_any (a1 a2 : Option Addr) (l1 c1 l2 c2 : Nat) (d1 d2 : List Int) (w : World) (r1 : RdD w a1 l1 c1 d1) (r2 : RdD w a2 l2 c2 d2) (k1 : OkD d1) (k2 : OkD d2) (hl1 : (l1 : Int) ≤ 50000) (hl2 : l2 ≤ l1) (hle : nv d2 ≤ nv d1) :
    Calls Tryz.prog 73 #[.slice a1 l1 c1, .slice a2 l2 c2] w fun r w' => NatRet w (nv d1 - nv d2) l1 r w' := by
  obtain ⟨i0, hi, hz0, hz1, hz2⟩ := info_parts infoI
  have R1 := hidden r1
  have R2 := hidden r2
  have K1 := hidden k1
  have K2 := hidden k2
  have e1 := hidden r1.1
  have e2 := hidden r2.1
  have HLE := hidden hle
  clear r1 r2 k1 k2 hle
  go_enter Tryz.func73, Tryz.ntmps73
  go_wp2
  go_loopw [5, 6, 7, 8] (fun v cc i t wr => ∃ (k : Nat) (os : List Int) (c : Int), k ≤ l1 ∧ i = .int .i64 k ∧ cc = .int .i64 c ∧ MinusAt d1 d2 k os c ∧ wr.ownsRow w.heap.size 3 1 v k (digV os) ∧ Below w.heap.size w wr) (fun _ _ i _ _ => l1 - (intOf i).toNat)
  case atStart => exact ⟨0, [], 0, by omega, rfl, rfl, ⟨(fun d hd => by cases hd), rfl, by omega, by omega, by simp [nv]⟩, World.ownsRow_nil _ _ _ _, Below.refl _ _⟩
  case round =>
    obtain ⟨k, os, c, hk, rfl, rfl, hp, hown, hbl⟩ := hrel
    have HP := hidden hp
    have HO := hidden hown
    have hc0 := hp.2.2.1
    have hc1 := hp.2.2.2.1
    clear hown hp
    have hs := hbl.size
    have x1 := K1.out.at k
    have x2 := K2.out.at k
    have hkb : (k : Int) ≤ 50000 := by omega
    by_cases g1 : k < l1
    · have HL := hidden HO.out.lt
      have HST := hidden (fun t u c' h1 h2 h3 h4 h5 h6 => HP.out.step (t := t) (u := u) (c' := c') h1 h2 h3 h4 h5 h6)
      have z2 : Hid (¬ k < l2 → d2.getD k 0 = 0) := hidden fun h => by rw [List.getD_eq_getElem?_getD, List.getElem?_eq_none (by have := e2.out; omega)]; rfl
      rcases R1.out.2.2 with ⟨_, h, _⟩ | ⟨b1, o1, rfl, hcc1⟩
      · omega
      have q1 := cellLater hbl (hcc1 k g1)
      have i1 : (k : Int) < (l1 : Int) := by omega
      by_cases g2 : k < l2
      · rcases R2.out.2.2 with ⟨_, h, _⟩ | ⟨b2, o2, rfl, hcc2⟩
        · omega
        have q2 := cellLater hbl (hcc2 k g2)
        have i2 : (k : Int) < (l2 : Int) := by omega
        clear hcc1 hcc2 z2
        generalize d1.getD k 0 = X at *
        generalize d2.getD k 0 = Y at *
        by_cases hneg : X - c - Y < 0
        · have hneg1 : -65536 ≤ X - c - Y := by omega
          have HO1 := hidden (HO.out.alloc (.cells #[.int .i64 (X - c - Y + 65536)] 3))
          have HN1 := hidden (newD_cell wr [X - c - Y + 65536] (by unfold maxLen; simp))
          have hb1 : Below w.heap.size w (wr.alloc (.cells #[.int .i64 (X - c - Y + 65536)] 3)) := hbl.alloc hs _
          have HT := hidden (HST.out (X - c - Y) (X - c - Y + 65536) 1 (rfl) (by omega) (by omega) (by omega) (by omega) (by omega))
          clear HST HP
          go_wp2_with (at_builtin; refine wpList_append_own _ rfl (.tmp 35) (.tmp 37) 59 rfl w.heap.size 3 i0 (.int .i64 0) 1 8 Tryz.underlying59 hi hz0 hz1 hz2 rfl (by decide) _ _ _ rfl HO1.out ⟨wr.heap.size, 0, none⟩ 1 1 (digV [X - c - Y + 65536]) rfl rfl HN1.out (digV_one _) (by unfold maxLen; omega) (by omega) (by simp; omega) ?_; intro v2 w2 hown2 hgrow2 hiff2; clear hiff2; refine Hid.out ?_)
          have hb2 : Below w.heap.size w w2 := hb1.grown hgrow2 (by simp; omega) (by intro k hk; exact (HL.out k hk).1)
          rw [digV_append] at hown2
          have HO3 := hidden hown2
          clear hown2 hgrow2 HO HO1 HN1 HL hb1
          refine hidden ?_
          go_wp2
          go_roundw
          case rel => exact ⟨k + 1, os ++ [X - c - Y + 65536], 1, by omega, by go_num, rfl, HT.out, HO3.out, hb2⟩
          case measure => simp [intOf]; omega
        · have hneg1 : 0 ≤ X - c - Y := by omega
          have hneg2 : X - c - Y ≤ 65535 := by omega
          have HO1 := hidden (HO.out.alloc (.cells #[.int .i64 (X - c - Y)] 3))
          have HN1 := hidden (newD_cell wr [X - c - Y] (by unfold maxLen; simp))
          have hb1 : Below w.heap.size w (wr.alloc (.cells #[.int .i64 (X - c - Y)] 3)) := hbl.alloc hs _
          have HT := hidden (HST.out (X - c - Y) (X - c - Y) 0 (rfl) (by omega) (by omega) (by omega) (by omega) (by omega))
          clear HST HP
          go_wp2_with (at_builtin; refine wpList_append_own _ rfl (.tmp 35) (.tmp 37) 59 rfl w.heap.size 3 i0 (.int .i64 0) 1 8 Tryz.underlying59 hi hz0 hz1 hz2 rfl (by decide) _ _ _ rfl HO1.out ⟨wr.heap.size, 0, none⟩ 1 1 (digV [X - c - Y]) rfl rfl HN1.out (digV_one _) (by unfold maxLen; omega) (by omega) (by simp; omega) ?_; intro v2 w2 hown2 hgrow2 hiff2; clear hiff2; refine Hid.out ?_)
          have hb2 : Below w.heap.size w w2 := hb1.grown hgrow2 (by simp; omega) (by intro k hk; exact (HL.out k hk).1)
          rw [digV_append] at hown2
          have HO3 := hidden hown2
          clear hown2 hgrow2 HO HO1 HN1 HL hb1
          refine hidden ?_
          go_wp2
          go_roundw
          case rel => exact ⟨k + 1, os ++ [X - c - Y], 0, by omega, by go_num, rfl, HT.out, HO3.out, hb2⟩
          case measure => simp [intOf]; omega
      · have i2 : ¬ (k : Int) < (l2 : Int) := by omega
        have hY := hidden (z2.out g2)
        clear hcc1 z2
        generalize d1.getD k 0 = X at *
        generalize d2.getD k 0 = Y at *
        by_cases hneg : X - c < 0
        · have hneg1 : -65536 ≤ X - c := by omega
          have HO1 := hidden (HO.out.alloc (.cells #[.int .i64 (X - c + 65536)] 3))
          have HN1 := hidden (newD_cell wr [X - c + 65536] (by unfold maxLen; simp))
          have hb1 : Below w.heap.size w (wr.alloc (.cells #[.int .i64 (X - c + 65536)] 3)) := hbl.alloc hs _
          have HT := hidden (HST.out (X - c) (X - c + 65536) 1 (by rw [hY.out]; omega) (by omega) (by omega) (by omega) (by omega) (by omega))
          clear HST HP
          go_wp2_with (at_builtin; refine wpList_append_own _ rfl (.tmp 35) (.tmp 37) 59 rfl w.heap.size 3 i0 (.int .i64 0) 1 8 Tryz.underlying59 hi hz0 hz1 hz2 rfl (by decide) _ _ _ rfl HO1.out ⟨wr.heap.size, 0, none⟩ 1 1 (digV [X - c + 65536]) rfl rfl HN1.out (digV_one _) (by unfold maxLen; omega) (by omega) (by simp; omega) ?_; intro v2 w2 hown2 hgrow2 hiff2; clear hiff2; refine Hid.out ?_)
          have hb2 : Below w.heap.size w w2 := hb1.grown hgrow2 (by simp; omega) (by intro k hk; exact (HL.out k hk).1)
          rw [digV_append] at hown2
          have HO3 := hidden hown2
          clear hown2 hgrow2 HO HO1 HN1 HL hb1
          refine hidden ?_
          go_wp2
          go_roundw
          case rel => exact ⟨k + 1, os ++ [X - c + 65536], 1, by omega, by go_num, rfl, HT.out, HO3.out, hb2⟩
          case measure => simp [intOf]; omega
        · have hneg1 : 0 ≤ X - c := by omega
          have hneg2 : X - c ≤ 65535 := by omega
          have HO1 := hidden (HO.out.alloc (.cells #[.int .i64 (X - c)] 3))
          have HN1 := hidden (newD_cell wr [X - c] (by unfold maxLen; simp))
          have hb1 : Below w.heap.size w (wr.alloc (.cells #[.int .i64 (X - c)] 3)) := hbl.alloc hs _
          have HT := hidden (HST.out (X - c) (X - c) 0 (by rw [hY.out]; omega) (by omega) (by omega) (by omega) (by omega) (by omega))
          clear HST HP
          go_wp2_with (at_builtin; refine wpList_append_own _ rfl (.tmp 35) (.tmp 37) 59 rfl w.heap.size 3 i0 (.int .i64 0) 1 8 Tryz.underlying59 hi hz0 hz1 hz2 rfl (by decide) _ _ _ rfl HO1.out ⟨wr.heap.size, 0, none⟩ 1 1 (digV [X - c]) rfl rfl HN1.out (digV_one _) (by unfold maxLen; omega) (by omega) (by simp; omega) ?_; intro v2 w2 hown2 hgrow2 hiff2; clear hiff2; refine Hid.out ?_)
          have hb2 : Below w.heap.size w w2 := hb1.grown hgrow2 (by simp; omega) (by intro k hk; exact (HL.out k hk).1)
          rw [digV_append] at hown2
          have HO3 := hidden hown2
          clear hown2 hgrow2 HO HO1 HN1 HL hb1
          refine hidden ?_
          go_wp2
          go_roundw
          case rel => exact ⟨k + 1, os ++ [X - c], 0, by omega, by go_num, rfl, HT.out, HO3.out, hb2⟩
          case measure => simp [intOf]; omega
    · obtain rfl : k = l1 := by omega
      have i1 : ¬ (k : Int) < (k : Int) := by omega
      have HF : Hid (OkD os ∧ nv os = nv d1 - nv d2 ∧ os.length = k) := hidden (by
        obtain ⟨h1, h2, h3, h4, h5⟩ := HP.out
        refine ⟨h1, ?_, h2⟩
        rw [List.take_of_length_le (by have := e1.out; omega), List.take_of_length_le (by have := e2.out; omega)] at h5
        have l1 := nv_lt os h1
        have l2 := nv_nonneg os h1
        rw [h2] at l1
        have l3 := HLE.out
        have hc : c = 0 ∨ c = 1 := by omega
        rcases hc with rfl | rfl
        · rw [Int.mul_zero] at h5; omega
        · rw [Int.mul_one] at h5; omega)
      obtain ⟨a, cp, rfl, hrd, hnw⟩ := rdD_owned HO.out
      have HNW := hidden hnw
      clear hnw
      have HR := hidden hrd
      clear HP R1 R2 K1 K2 x1 x2 e1 e2 HO hrd
      go_wp2_with fail
      refine (trim_any a k cp os _ HR.out (by omega)).mono ?_
      rintro r w3 ⟨n, rfl, ht, hw⟩
      subst hw
      have hn : n ≤ k := by have := ht.1; have := HF.out.2.2; omega
      have HA : Hid (RdD w3 a n cp (os.take n) ∧ OkD (os.take n) ∧ nv (os.take n) = nv d1 - nv d2 ∧ (n = 0 ∨ (os.take n).getD (n - 1) 0 ≠ 0)) := ⟨HR.out.take hn, HF.out.1.take n, ht.2.1.trans HF.out.2.1, trimmed_or ht⟩
      clear ht HF HR
      go_wp2
      go_ret
      exact ⟨a, n, cp, _, rfl, HA.out.1, HA.out.2.1, HA.out.2.2.1, hn, HA.out.2.2.2, hbl, HNW.out⟩
end Go.Proofs.YtbfbdemknggpkaaGreatDoor
namespace Go.Proofs.YtbfbdemknggpkaaGreatDoor
open Go.RowKit
set_option maxRecDepth 100000
set_option maxHeartbeats 1000000

theorem nv_zeros (q : Nat) (l : List Int) : nv (List.replicate q 0 ++ l) = 65536 ^ q * nv l := by
  induction q with
  | zero => simp
  | succ q ih =>
    rw [List.replicate_succ]
    show 0 + 65536 * nv (List.replicate q 0 ++ l) = _
    rw [ih, Int.pow_succ, Int.mul_comm (65536 ^ q) 65536, Int.mul_assoc]
    omega
theorem made_zeros (q : Nat) : (madeCells (Value.int .i64 0).cells (q * 1)).toList = digV (List.replicate q 0) := by
  rw [Nat.mul_one]
  show (madeCells #[Value.int .i64 0] q).toList = _
  rw [toList_madeCells_one]
  simp [digV]
theorem up_step (P os a x p c t : Int) (h : os + P * c = a * p) (ht : t = x * p + c) : os + P * (t % 65536) + P * 65536 * (t / 65536) = (a + P * x) * p := by
  have e : t % 65536 + 65536 * (t / 65536) = t := by omega
  have e2 : os + P * (t % 65536) + P * 65536 * (t / 65536) = os + P * (t % 65536 + 65536 * (t / 65536)) := by rw [Int.mul_add, Int.mul_assoc]; omega
  rw [e2, e, ht, Int.mul_add, Int.add_mul, Int.mul_assoc]
  omega
/-- what the loop of Up holds ahead of round k -/
def UpAt (A : List Int) (q : Nat) (p : Int) (k : Nat) (ds : List Int) (c : Int) : Prop :=
  ∃ os, ds = List.replicate q 0 ++ os ∧ OkD os ∧ os.length = k ∧ 0 ≤ c ∧ c ≤ 65535 ∧ nv os + 65536 ^ k * c = nv (A.take k) * p
theorem UpAt.step {A : List Int} {q : Nat} {p : Int} {k : Nat} {ds : List Int} {c t : Int} (h : UpAt A q p k ds c) (ht : t = A.getD k 0 * p + c) (t0 : 0 ≤ t) (t1 : t ≤ 4294967295) :
    UpAt A q p (k + 1) (ds ++ [t % 65536]) (t / 65536) := by
  obtain ⟨os, rfl, h1, h2, h3, h4, h5⟩ := h
  refine ⟨os ++ [t % 65536], by simp, ?_, by simp [h2], by omega, by omega, ?_⟩
  · intro d hd
    rcases List.mem_append.1 hd with h | h
    · exact h1 d h
    · simp at h; omega
  · rw [nv_take_step, nv_append, h2, Int.pow_succ]
    simp only [nv, Int.mul_zero, Int.add_zero]
    exact up_step _ _ _ _ _ _ _ h5 ht
theorem UpAt.done {A : List Int} {q : Nat} {p : Int} {k : Nat} {ds : List Int} {c : Int} (h : UpAt A q p k ds c) (hk : A.length ≤ k) : OkD (ds ++ [c]) ∧ nv (ds ++ [c]) = 65536 ^ q * (nv A * p) ∧ (ds ++ [c]).length = q + k + 1 := by
  obtain ⟨os, rfl, h1, h2, h3, h4, h5⟩ := h
  rw [List.take_of_length_le hk] at h5
  refine ⟨?_, ?_, by simp [h2]; omega⟩
  · intro d hd
    rcases List.mem_append.1 hd with h | h
    · rcases List.mem_append.1 h with h | h
      · rw [(List.mem_replicate.1 h).2]; omega
      · exact h1 d h
    · simp at h; omega
  · rw [List.append_assoc, nv_zeros, nv_append, h2]
    simp only [nv, Int.mul_zero, Int.add_zero]
    rw [h5]
theorem mul_bd (x p : Int) (x0 : 0 ≤ x) (x1 : x ≤ 65535) (p0 : 0 < p) (p1 : p ≤ 32768) : 0 ≤ x * p ∧ x * p ≤ 2147450880 := by
  refine ⟨Int.mul_nonneg x0 (by omega), ?_⟩
  have h1 := Int.mul_le_mul_of_nonneg_right x1 (Int.le_of_lt p0)
  have h2 := Int.mul_le_mul_of_nonneg_left p1 (show (0 : Int) ≤ 65535 by omega)
  omega
theorem up_any (a1 : Option Addr) (l1 c1 : Nat) (d1 : List Int) (n : Nat) (w : World) (r1 : RdD w a1 l1 c1 d1) (k1 : OkD d1) (hl1 : (l1 : Int) ≤ 20000) (hn : (n : Int) ≤ 100000) :
    Calls Tryz.prog 48 #[.slice a1 l1 c1, .int .i64 n] w fun r w' => NatRet w (nv d1 * p2 n) (n / 16 + l1 + 1) r w' := by
  obtain ⟨i0, hi, hz0, hz1, hz2⟩ := info_parts infoI
  have R1 := hidden r1
  have K1 := hidden k1
  have e1 := hidden r1.1
  clear r1 k1
  have hq : (n : Int) / 16 = ((n / 16 : Nat) : Int) := by omega
  have hr : (n : Int) % 16 = ((n % 16 : Nat) : Int) := by omega
  have HV : Hid (65536 ^ (n / 16) * (nv d1 * p2 (n % 16)) = nv d1 * p2 n) := hidden (by
    rw [pow16, ← Int.mul_assoc, Int.mul_comm (p2 (16 * (n / 16))), Int.mul_assoc, ← p2_add, show 16 * (n / 16) + n % 16 = n by omega])
  have hr15 : n % 16 ≤ 15 := by omega
  have hp15 : p2 15 = 32768 := by decide
  have hpr : Hid (0 < p2 (n % 16) ∧ p2 (n % 16) ≤ 32768) := ⟨p2_pos _, by rw [← hp15]; exact p2_mono hr15⟩
  clear hp15
  have hqb : n / 16 ≤ 6250 := by omega
  have hrn : ((n % 16 : Nat) : Int) ≤ 15 := by omega
  generalize hqq : n / 16 = q at *
  generalize hrr : n % 16 = rr at *
  clear hqq hrr
  go_enter Tryz.func48, Tryz.ntmps48
  go_wp2_with (refine wpList_make_full _ rfl _ _ 59 rfl w.heap.size 3 i0 (.int .i64 0) 1 Tryz.underlying59 hi hz0 hz1 .i64 .i64 _ _ q rfl rfl (by omega) (by omega) (by rw [hz2]; omega) (by unfold maxLen; omega) (Nat.le_refl _) ?_; intro w1 hown1 hgrow1; refine Hid.out ?_)
  rw [made_zeros] at hown1
  have hb1 : Below w.heap.size w w1 := (Below.refl _ _).grown hgrow1 (Nat.le_refl _) (by intro k hk; cases hk)
  have HO1 := hidden hown1
  clear hown1 hgrow1
  refine hidden ?_
  go_wp2
  go_loop [6, 7] (fun p i => ∃ k : Nat, k ≤ rr ∧ i = .int .i64 k ∧ p = .int .i64 (p2 k)) (fun _ i => rr - (intOf i).toNat)
  case atStart => exact ⟨0, by omega, rfl, rfl⟩
  case round =>
    obtain ⟨k, hk, rfl, rfl⟩ := hrel
    by_cases hlt : (k : Int) < (rr : Int)
    · have h1 := p2_pos k
      have h2 : p2 k ≤ 32768 := Int.le_trans (p2_mono hk) hpr.out.2
      have h3 := hidden (p2_succ k)
      generalize p2 k = P at *
      go_wp2
      go_round
      case rel => exact ⟨k + 1, by omega, by go_num, by rw [h3.out]⟩
      case measure => simp [intOf]; omega
    · obtain rfl : k = rr := by omega
      have hp0 := hpr.out.1
      have hp1 := hpr.out.2
      clear hpr
      generalize p2 k = P at *
      go_wp2
      go_loopw [5, 8, 9, 10] (fun v cc i t wr => ∃ (j : Nat) (ds : List Int) (c : Int), j ≤ l1 ∧ i = .int .i64 j ∧ cc = .int .i64 c ∧ 0 ≤ c ∧ c ≤ 65535 ∧ UpAt d1 q P j ds c ∧ wr.ownsRow w.heap.size 3 1 v (q + j) (digV ds) ∧ Below w.heap.size w wr) (fun _ _ i _ _ => l1 - (intOf i).toNat)
      case atStart => exact ⟨0, List.replicate q 0, 0, by omega, rfl, rfl, by omega, by omega, ⟨[], by simp, (fun d hd => by cases hd), rfl, by omega, by omega, by simp [nv]⟩, HO1.out, hb1⟩
      case round =>
        obtain ⟨j, ds, c, hj, rfl, rfl, hc0, hc1, hp, hown, hbl⟩ := hrel
        have HP := hidden hp
        have HO := hidden hown
        clear hown hp
        have hs := hbl.size
        have x1 := K1.out.at j
        have hjb : (j : Int) ≤ 20000 := by omega
        have HL := hidden HO.out.lt
        by_cases g1 : j < l1
        · rcases R1.out.2.2 with ⟨_, h, _⟩ | ⟨b1, o1, rfl, hcc1⟩
          · omega
          have q1 := cellLater hbl (hcc1 j g1)
          have i1 : (j : Int) < (l1 : Int) := by omega
          have hm := mul_bd (d1.getD j 0) P x1.1 x1.2 hp0 hp1
          have HST := hidden (fun t h1 h2 h3 => HP.out.step (t := t) h1 h2 h3)
          clear hcc1 HP
          generalize d1.getD j 0 = X at *
          have HT := hidden (HST.out (X * P + c) rfl (by omega) (by omega))
          have HOa := hidden (HO.out.alloc (.cells #[.int .i64 ((X * P + c) % 65536)] 3))
          have HN1 := hidden (newD_cell wr [(X * P + c) % 65536] (by unfold maxLen; simp))
          have hba : Below w.heap.size w (wr.alloc (.cells #[.int .i64 ((X * P + c) % 65536)] 3)) := hbl.alloc hs _
          have hcb : 0 ≤ (X * P + c) / 65536 ∧ (X * P + c) / 65536 ≤ 65535 := by omega
          have HCB := hidden hcb
          clear HST hcb
          go_wp2_with (at_builtin; refine wpList_append_own _ rfl (.tmp 36) (.tmp 39) 59 rfl w.heap.size 3 i0 (.int .i64 0) 1 8 Tryz.underlying59 hi hz0 hz1 hz2 rfl (by decide) _ _ _ rfl HOa.out ⟨wr.heap.size, 0, none⟩ 1 1 (digV [(X * P + c) % 65536]) rfl rfl HN1.out (digV_one _) (by unfold maxLen; omega) (by omega) (by simp; omega) ?_; intro v2 w2 hown2 hgrow2 hiff2; clear hiff2; refine Hid.out ?_)
          have hb2 : Below w.heap.size w w2 := hba.grown hgrow2 (by simp; omega) (by intro k hk; exact (HL.out k hk).1)
          rw [digV_append] at hown2
          have HO3 := hidden hown2
          clear hown2 hgrow2 HO HOa HN1 HL hba
          refine hidden ?_
          go_wp2
          go_roundw
          case rel => exact ⟨j + 1, ds ++ [(X * P + c) % 65536], (X * P + c) / 65536, by omega, by go_num, rfl, HCB.out.1, HCB.out.2, HT.out, HO3.out, hb2⟩
          case measure => simp [intOf]; omega
        · obtain rfl : j = l1 := by omega
          have i1 : ¬ (j : Int) < (j : Int) := by omega
          have HF := hidden (HP.out.done (by have := e1.out; omega))
          have HOa := hidden (HO.out.alloc (.cells #[.int .i64 c] 3))
          have HN1 := hidden (newD_cell wr [c] (by unfold maxLen; simp))
          have hba : Below w.heap.size w (wr.alloc (.cells #[.int .i64 c] 3)) := hbl.alloc hs _
          clear HP R1 K1 x1 e1
          go_wp2_with (at_builtin; refine wpList_append_own _ rfl (.tmp 43) (.tmp 45) 59 rfl w.heap.size 3 i0 (.int .i64 0) 1 8 Tryz.underlying59 hi hz0 hz1 hz2 rfl (by decide) _ _ _ rfl HOa.out ⟨wr.heap.size, 0, none⟩ 1 1 (digV [c]) rfl rfl HN1.out (digV_one _) (by unfold maxLen; omega) (by omega) (by simp; omega) ?_; intro v2 w2 hown2 hgrow2 hiff2; clear hiff2; refine Hid.out ?_)
          have hb2 : Below w.heap.size w w2 := hba.grown hgrow2 (by simp; omega) (by intro k hk; exact (HL.out k hk).1)
          rw [digV_append] at hown2
          obtain ⟨a, cp, rfl, hrd, hnw⟩ := rdD_owned hown2
          have HNW := hidden hnw
          clear hnw
          have HR := hidden hrd
          clear hown2 hgrow2 HO HOa HN1 HL hba hrd
          refine hidden ?_
          go_wp2_with fail
          refine (trim_any a (q + j + 1) cp (ds ++ [c]) _ HR.out (by omega)).mono ?_
          rintro r w3 ⟨m, rfl, ht, hw⟩
          obtain rfl := hw.symm
          have hmm : m ≤ q + j + 1 := by have := ht.1; have := HF.out.2.2; omega
          have HA : Hid (RdD w2 a m cp ((ds ++ [c]).take m) ∧ OkD ((ds ++ [c]).take m) ∧ nv ((ds ++ [c]).take m) = nv d1 * p2 n ∧ (m = 0 ∨ ((ds ++ [c]).take m).getD (m - 1) 0 ≠ 0)) := ⟨HR.out.take hmm, HF.out.1.take m, (ht.2.1.trans HF.out.2.1).trans HV.out, trimmed_or ht⟩
          clear ht HF HR HV
          go_wp2
          go_ret
          exact ⟨a, m, cp, _, rfl, HA.out.1, HA.out.2.1, HA.out.2.2.1, by omega, HA.out.2.2.2, hb2, HNW.out⟩
end Go.Proofs.YtbfbdemknggpkaaGreatDoor
namespace Go.Proofs.YtbfbdemknggpkaaGreatDoor
open Go.RowKit
set_option maxRecDepth 100000
set_option maxHeartbeats 1000000

/-- digits of the number N that lie in memory, at most L of them, no zero at the top -/
structure HasNat (w : World) (a : Option Addr) (len cap : Nat) (ds : List Int) (N : Int) : Prop where
  rd : RdD w a len cap ds
  ok : OkD ds
  val : nv ds = N
  top : len = 0 ∨ ds.getD (len - 1) 0 ≠ 0
theorem HasNat.later {w w' : World} {a : Option Addr} {len cap : Nat} {ds : List Int} {N : Int} (h : HasNat w a len cap ds N) (hb : Below w.heap.size w w') : HasNat w' a len cap ds N := ⟨h.rd.later hb, h.ok, h.val, h.top⟩
theorem HasNat.nonneg {w : World} {a : Option Addr} {len cap : Nat} {ds : List Int} {N : Int} (h : HasNat w a len cap ds N) : 0 ≤ N := by rw [← h.val]; exact nv_nonneg _ h.ok
theorem HasNat.len_le {w w' : World} {a a' : Option Addr} {len cap len' cap' : Nat} {ds ds' : List Int} {N N' : Int} (h : HasNat w a len cap ds N) (h' : HasNat w' a' len' cap' ds' N') (hle : N ≤ N') : len ≤ len' := by
  rcases Nat.lt_or_ge len' len with hl | hl
  · have hd := h.rd.1
    have hd' := h'.rd.1
    have := cmp_len ds' ds h'.ok h.ok (by omega) (by
      rcases h.top with h0 | h0
      · omega
      · rw [hd]; exact h0)
    have e1 := h.val
    have e2 := h'.val
    omega
  · exact hl
theorem quo_take (A B q r P t : Int) (h : q * B + r = A) (ht : t = B * P) : (q + P) * B + (r - t) = A := by
  rw [ht, Int.add_mul, Int.mul_comm P B]; omega
theorem cmpI_le (a b : Int) : decide (cmpI a b ≤ 0) = decide (a ≤ b) := by
  unfold cmpI
  split
  · simp; omega
  · split <;> simp <;> omega
def QuoRet (w : World) (A B : Int) (la : Nat) (r : Ending) (w' : World) : Prop :=
  ∃ a1 l1 c1 d1 a2 l2 c2 d2 Q R, r = .returned (.tuple #[.slice a1 l1 c1, .slice a2 l2 c2]) ∧ HasNat w' a1 l1 c1 d1 Q ∧ HasNat w' a2 l2 c2 d2 R ∧ Q * B + R = A ∧ R < B ∧ l1 ≤ 50000 ∧ l2 ≤ la ∧ Below w.heap.size w w'
theorem has_nil (w : World) : HasNat w none 0 0 [] 0 := ⟨⟨rfl, Nat.le_refl _, .inl ⟨rfl, rfl, rfl⟩⟩, (fun d hd => by cases hd), rfl, .inl rfl⟩
theorem rd_one (w : World) : RdD (w.alloc (.cells #[.int .i64 1] 3)) (some ⟨w.heap.size, 0, none⟩) 1 1 [1] := by
  refine ⟨rfl, Nat.le_refl _, .inr ⟨w.heap.size, 0, rfl, fun i hi => ?_⟩⟩
  obtain rfl : i = 0 := by omega
  simp
theorem HidB {w w' : World} {a : Option Addr} {len cap : Nat} {ds : List Int} {N : Int} (h : Hid (HasNat w a len cap ds N)) (hb : Below w.heap.size w w') : Hid (HasNat w' a len cap ds N) := h.out.later hb
theorem quo_any (a1 a2 : Option Addr) (l1 c1 l2 c2 : Nat) (d1 d2 : List Int) (A B : Int) (w : World) (h1 : HasNat w a1 l1 c1 d1 A) (h2 : HasNat w a2 l2 c2 d2 B) (hB : 0 < B) (hl1 : (l1 : Int) ≤ 1500) (hl2 : (l2 : Int) ≤ 1500) :
    Calls Tryz.prog 47 #[.slice a1 l1 c1, .slice a2 l2 c2] w fun r w' => QuoRet w A B l1 r w' := by
  have H1 := hidden h1
  have H2 := hidden h2
  have hA0 := h1.nonneg
  have V1 := hidden h1.val
  have V2 := hidden h2.val
  clear h1 h2
  go_enter Tryz.func47, Tryz.ntmps47
  go_wp2_with fail
  refine (trim_any a1 l1 c1 d1 _ H1.out.rd (by omega)).mono ?_
  rintro r w1 ⟨n, rfl, ht, hw⟩
  obtain rfl := hw.symm
  have hn : n ≤ l1 := by have := ht.1; have := H1.out.rd.1; omega
  have HR : Hid (HasNat w a1 n c1 (d1.take n) A) := ⟨H1.out.rd.take hn, H1.out.ok.take n, ht.2.1.trans V1.out, trimmed_or ht⟩
  clear ht
  generalize d1.take n = dr at HR
  go_wp2_with fail
  refine (bits_any a1 l1 c1 d1 _ H1.out.rd H1.out.ok (by omega)).mono ?_
  rintro r w1 ⟨⟨ba, rfl, hba, hba2⟩, hw⟩
  obtain rfl := hw.symm
  rw [V1.out] at hba
  have BA := hidden hba
  clear hba
  go_wp2_with fail
  refine (bits_any a2 l2 c2 d2 _ H2.out.rd H2.out.ok (by omega)).mono ?_
  rintro r w1 ⟨⟨bb, rfl, hbb, hbb2⟩, hw⟩
  obtain rfl := hw.symm
  rw [V2.out] at hbb
  have BB := hidden hbb
  clear hbb
  have HI : Hid (A < B * p2 ((ba : Int) - (bb : Int) + 1).toNat) := hidden (by
    rcases BB.out with ⟨h, _⟩ | ⟨q0, q1, q2⟩
    · omega
    · rcases BA.out with ⟨h, _⟩ | ⟨r0, r1, r2⟩
      · have := Int.mul_pos hB (p2_pos ((ba : Int) - (bb : Int) + 1).toNat); omega
      · have h3 : p2 ba ≤ p2 (bb - 1) * p2 ((ba : Int) - (bb : Int) + 1).toNat := by rw [← p2_add]; exact p2_mono (by omega)
        have h4 := Int.mul_le_mul_of_nonneg_right q1 (Int.le_of_lt (p2_pos ((ba : Int) - (bb : Int) + 1).toNat))
        omega)
  clear BA BB H1 V1
  have hrng : -24000 ≤ (ba : Int) - (bb : Int) ∧ (ba : Int) - (bb : Int) ≤ 24000 := by omega
  go_wp2
  generalize (ba : Int) - (bb : Int) = i0 at *
  go_loopw [6, 7, 8, 9] (fun vq vr i t wr => ∃ (j : Int) (aq ar : Option Addr) (lq cq lr cr : Nat) (dq dr : List Int) (Q R : Int), i = .int .i64 j ∧ -24000 ≤ j ∧ j ≤ 24000 ∧ vq = .slice aq lq cq ∧ vr = .slice ar lr cr ∧ HasNat wr aq lq cq dq Q ∧ HasNat wr ar lr cr dr R ∧ Q * B + R = A ∧ R < B * p2 (j + 1).toNat ∧ (lq : Int) + j ≤ 26000 ∧ lr ≤ l1 ∧ Below w.heap.size w wr) (fun _ _ i _ _ => (intOf i + 1).toNat)
  case atStart => exact ⟨i0, none, a1, 0, 0, n, c1, [], dr, 0, A, rfl, by omega, by omega, rfl, rfl, has_nil _, HR.out, by omega, HI.out, by omega, hn, Below.refl _ _⟩
  case round =>
    obtain ⟨j, aq, ar, lq, cq, lr, cr, dq, dr, Q, R, rfl, hj0, hj1, rfl, rfl, hq, hr, hqr, hlt, hlq, hlr, hbl⟩ := hrel
    have HQ := hidden hq
    have HR := hidden hr
    have HE := hidden hqr
    have HLT := hidden hlt
    clear hq hr hqr hlt
    by_cases hj : 0 ≤ j
    · obtain ⟨m, rfl⟩ := Int.eq_ofNat_of_zero_le hj
      have hb2 := HidB H2 hbl
      go_wp2_with fail
      refine (up_any a2 l2 c2 d2 m _ hb2.out.rd hb2.out.ok (by omega) (by omega)).mono ?_
      rintro r w1 ⟨at_, lt, ct, dt, rfl, rt, kt, vt, lbt, tt, hb1, -⟩
      rw [V2.out] at vt
      have HT : Hid (HasNat w1 at_ lt ct dt (B * p2 m)) := ⟨rt, kt, vt, tt⟩
      have hlt2 : lt ≤ 3002 := by omega
      clear rt kt vt tt lbt
      have HR1 := hidden (HR.out.later hb1)
      have HQ1 := hidden (HQ.out.later hb1)
      go_wp2_with fail
      refine (cmp_any at_ ar lt ct lr cr dt dr _ HT.out.rd HR1.out.rd HT.out.ok HR1.out.ok (by omega) (by omega)).mono ?_
      rintro r w2 ⟨rfl, hb2⟩
      rw [HT.out.val, HR1.out.val]
      have HT2 := hidden (HT.out.later hb2)
      have HR2 := hidden (HR1.out.later hb2)
      have HQ2 := hidden (HQ1.out.later hb2)
      have hs0 := hbl.size
      have hs1 := hb1.size
      have hs2 := hb2.size
      have hB02 : Below w.heap.size w w2 := (hbl.trans (hb1.mono hs0)).trans (hb2.mono (by omega))
      have hcd := cmpI_le (B * p2 m) R
      by_cases hle : B * p2 m ≤ R
      · have hcm : cmpI (B * p2 m) R ≤ 0 := by have : decide (cmpI (B * p2 m) R ≤ 0) = true := by rw [hcd]; simpa using hle
                                               simpa using this
        clear hcd
        generalize cmpI (B * p2 m) R = C at *
        go_wp2_with fail
        refine (minus_any ar at_ lr cr lt ct dr dt _ HR2.out.rd HT2.out.rd HR2.out.ok HT2.out.ok (by omega) (HT2.out.len_le HR2.out hle) (by rw [HT2.out.val, HR2.out.val]; exact hle)).mono ?_
        rintro r w3 ⟨am, lm, cm, dm, rfl, rm, km, vm, lbm, tm, hb3, -⟩
        rw [HT2.out.val, HR2.out.val] at vm
        have HM : Hid (HasNat w3 am lm cm dm (R - B * p2 m)) := ⟨rm, km, vm, tm⟩
        clear rm km vm tm
        have hs3 := hb3.size
        have H1 := hidden (rd_one w3)
        have hb4 : Below w3.heap.size w3 (w3.alloc (.cells #[.int .i64 1] 3)) := (Below.refl _ _).alloc (Nat.le_refl _) _
        have HQ4 := hidden ((HQ2.out.later hb3).later hb4)
        have HM4 := hidden (HM.out.later hb4)
        go_wp2_with fail
        refine (up_any _ 1 1 [1] m _ H1.out (fun d hd => by simp at hd; omega) (by omega) (by omega)).mono ?_
        rintro r w5 ⟨au, lu, cu, du, rfl, ru, ku, vu, lbu, tu, hb5, -⟩
        have HU : Hid (HasNat w5 au lu cu du (p2 m)) := ⟨ru, ku, by rw [vu]; simp [nv], tu⟩
        have hlu : lu ≤ 1502 := by omega
        clear ru ku vu tu lbu
        have HQ5 := hidden (HQ4.out.later hb5)
        have HM5 := hidden (HM4.out.later hb5)
        go_wp2_with fail
        refine (plus_any aq au lq cq lu cu dq du _ HQ5.out.rd HU.out.rd HQ5.out.ok HU.out.ok (by omega) (by omega)).mono ?_
        rintro r w6 ⟨ap, lp, cp, dp, rfl, rp, kp, vp, lbp, tp, hb6, -⟩
        rw [HQ5.out.val, HU.out.val] at vp
        have HP : Hid (HasNat w6 ap lp cp dp (Q + p2 m)) := ⟨rp, kp, vp, tp⟩
        have HM6 := hidden (HM5.out.later hb6)
        clear rp kp vp tp
        have hs5 := hb5.size
        have hs6 := hb6.size
        have hs4 : w3.heap.size ≤ (w3.alloc (.cells #[.int .i64 1] 3)).heap.size := by simp
        have hB6 : Below w.heap.size w w6 := (((hB02.trans (hb3.mono (by omega))).trans (hb4.mono (by omega))).trans (hb5.mono (by omega))).trans (hb6.mono (by omega))
        have hlp : (lp : Int) + ((m : Int) - 1) ≤ 26000 := by omega
        clear hs4
        go_wp2
        go_roundw
        case rel =>
          refine ⟨(m : Int) - 1, ap, am, lp, cp, lm, cm, dp, dm, Q + p2 m, R - B * p2 m, rfl, by omega, by omega, rfl, rfl, HP.out, HM6.out, quo_take A B Q R (p2 m) _ HE.out rfl, ?_, hlp, by omega, hB6⟩
          have h1 := HLT.out
          rw [show ((m : Int) + 1).toNat = m + 1 by omega, p2_succ, ← Int.mul_assoc, Int.mul_comm B 2, Int.mul_assoc] at h1
          rw [show ((m : Int) - 1 + 1).toNat = m by omega]
          omega
        case measure => simp [intOf]
      · have hcm : ¬ cmpI (B * p2 m) R ≤ 0 := by have : decide (cmpI (B * p2 m) R ≤ 0) = false := by rw [hcd]; simpa using hle
                                                 simpa using this
        clear hcd
        generalize cmpI (B * p2 m) R = C at *
        go_wp2
        go_roundw
        case rel =>
          refine ⟨(m : Int) - 1, aq, ar, lq, cq, lr, cr, dq, dr, Q, R, rfl, by omega, by omega, rfl, rfl, HQ2.out, HR2.out, HE.out, ?_, by omega, hlr, hB02⟩
          rw [show ((m : Int) - 1 + 1).toNat = m by omega]
          omega
        case measure => simp [intOf]
    · have HF : Hid (R < B) := hidden (by
        have h1 := HLT.out
        rw [show (j + 1).toNat = 0 by omega] at h1
        have : p2 0 = 1 := rfl
        rw [this] at h1
        omega)
      have hlq2 : lq ≤ 50000 := by omega
      go_wp2
      go_ret2
      exact ⟨aq, lq, cq, dq, ar, lr, cr, dr, Q, R, rfl, HQ.out, HR.out, HE.out, HF.out, hlq2, hlr, hbl⟩
end Go.Proofs.YtbfbdemknggpkaaGreatDoor
