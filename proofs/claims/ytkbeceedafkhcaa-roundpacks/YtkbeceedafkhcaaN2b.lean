/- Contracts of the document's NatOf, Small and Bits (package grottoref02): a word as digits, digits as a word, how many bits a number has. -/
import Derived.Test.YtkbeceedafkhcaaN2a
import Derived.Laws.OwnMore
import Derived.Laws.AppendOwnNone
import Derived.OwnWalk
namespace Go.Proofs.Ytkbeceedafkhcaa
open Go.RowKit
set_option maxHeartbeats 400000

theorem infoI : (Try.prog.info? 3).map (fun i => (i.zero, i.size, i.bytes)) = some (some (.int .i64 0), 1, 8) := by kernel_rfl
def digV (ds : List Int) : List Value := ds.map (Value.int .i64)
theorem digV_one (ds : List Int) : ∀ u ∈ digV ds, u.oneCell' = true := by
  intro u hu
  obtain ⟨z, _, rfl⟩ := List.mem_map.1 hu
  rfl
theorem digV_at (ds : List Int) (j : Nat) (h : j < ds.length) : (digV ds)[j]? = some (.int .i64 (ds.getD j 0)) := by simp [digV, h]
theorem digV_append (a b : List Int) : digV a ++ digV b = digV (a ++ b) := by simp [digV]
/-- a block that the call made owns its cells -/
theorem ownsD_new (w : World) (base : Nat) (ds : List Int) (hb : base ≤ w.heap.size) (hm : ds.length ≤ maxLen) :
    (w.alloc (.cells (digV ds).toArray 3)).ownsRow base 3 1 (.slice (some ⟨w.heap.size, 0, none⟩) ds.length ds.length) ds.length (digV ds) := by
  refine ⟨by simp [digV], .inr ⟨w.heap.size, ds.length, (digV ds).toArray, rfl, hb, ?_, Nat.le_refl _, hm, by simp [digV], by rw [Nat.mul_one, List.take_of_length_le (by simp [digV])]⟩⟩
  exact heap_alloc_new _ _
theorem newD_cell (w : World) (ds : List Int) (hm : ds.length ≤ maxLen) (j : Nat) (u : Value) (h : (digV ds)[j]? = some u) :
    (w.alloc (.cells (digV ds).toArray 3)).cell? ((⟨w.heap.size, 0, none⟩ : Addr).add j) = some u :=
  (ownsD_new w 0 ds (Nat.zero_le _) hm).cells (g := w.heap.size) rfl j u h
/-- an owned row of digits reads as the digits -/
theorem rdD_owned {w : World} {base n : Nat} {v : Value} {ds : List Int} (h : w.ownsRow base 3 1 v n (digV ds)) : ∃ a c, v = .slice a n c ∧ RdD w a n c ds := by
  have hl : ds.length = n := by have := h.1; simpa [digV] using this
  rcases h.2 with ⟨rfl, rfl⟩ | ⟨g, cap, cur, rfl, _, _, hnc, _⟩
  · obtain rfl := List.eq_nil_of_length_eq_zero hl
    exact ⟨none, 0, rfl, rfl, Nat.le_refl _, .inl ⟨rfl, rfl, rfl⟩⟩
  · refine ⟨some ⟨g, 0, none⟩, cap, rfl, hl, hnc, .inr ⟨g, 0, rfl, fun i hi => ?_⟩⟩
    rw [Nat.zero_add, h.cellAt i (by omega), digV_at ds i (by omega)]
/-- a call hands back digits of the number N, at most L of them, and makes at most new memory -/
def NatRet (w : World) (N : Int) (L : Nat) (r : Ending) (w' : World) : Prop :=
  ∃ a len cap ds, r = .returned (.slice a len cap) ∧ RdD w' a len cap ds ∧ OkD ds ∧ nv ds = N ∧ len ≤ L ∧ (len = 0 ∨ ds.getD (len - 1) 0 ≠ 0) ∧ Below w.heap.size w w'
theorem natOf_any (x : Int) (w : World) (x0 : 0 ≤ x) (x1 : x ≤ 18446744073709551615) :
    Calls Try.prog 41 #[.int .u64 x] w fun r w' => NatRet w x 4 r w' := by
  obtain ⟨i0, hi, hz0, hz1, hz2⟩ := info_parts infoI
  go_enter Try.func41, Try.ntmps41
  go_wp2
  go_loopw [0, 3] (fun t v w' => ∃ (k : Nat) (y : Int) (ds : List Int), k ≤ 4 ∧ t = .int .u64 y ∧ 0 ≤ y ∧ y * 65536 ^ k ≤ 18446744073709551615 ∧ OkD ds ∧ nv ds + 65536 ^ k * y = x ∧ ds.length = k ∧ (k = 0 ∨ 0 < y ∨ ds.getD (k - 1) 0 ≠ 0) ∧ w'.ownsRow w.heap.size 3 1 v k (digV ds) ∧ Below w.heap.size w w') (fun t _ _ => (intOf t).toNat)
  case atStart => exact ⟨0, x, [], by omega, rfl, x0, by simpa using x1, (fun d hd => by cases hd), by simp [nv], rfl, .inl rfl, World.ownsRow_nil _ _ _ _, Below.refl _ _⟩
  case round =>
    obtain ⟨k, y, ds, hk, rfl, hy0, hyb, hok, hv, hlen, htop, hown, hbl⟩ := hrel
    have HTP := hidden htop
    have HO := hidden hown
    have HV := hidden hv
    have HY := hidden hyb
    have HK := hidden hok
    have HLn := hidden hlen
    clear hown hv hyb hok hlen htop
    by_cases hp : 0 < y
    · have hk3 : k ≤ 3 := by
        rcases Nat.lt_or_ge k 4 with h | h
        · omega
        · obtain rfl : k = 4 := by omega
          have h1 := HY.out
          have e : (65536 : Int) ^ 4 = 18446744073709551616 := by decide +kernel
          rw [e] at h1
          omega
      have hy1 : y ≤ 18446744073709551615 := by
        have h1 := HY.out
        have h2 : (1 : Int) ≤ 65536 ^ k := Int.pow_pos (by decide)
        have h3 : y * 1 ≤ y * 65536 ^ k := Int.mul_le_mul_of_nonneg_left h2 hy0
        omega
      have hs := hbl.size
      have HO1 := hidden (HO.out.alloc (.cells #[.int .i64 (y % 65536)] 3))
      have HN1 := hidden (newD_cell wr [y % 65536] (by unfold maxLen; simp))
      have hb1 : Below w.heap.size w (wr.alloc (.cells #[.int .i64 (y % 65536)] 3)) := hbl.alloc hs _
      have HL := hidden HO.out.lt
      go_wp2_with (at_builtin; refine wpList_append_own _ rfl (.tmp 6) (.tmp 10) 60 rfl w.heap.size 3 i0 (.int .i64 0) 1 8 Try.underlying60 hi hz0 hz1 hz2 rfl (by decide) _ _ _ rfl HO1.out ⟨wr.heap.size, 0, none⟩ 1 1 (digV [y % 65536]) rfl rfl HN1.out (digV_one _) (by unfold maxLen; omega) (by omega) (by simp; omega) ?_; intro v2 w2 hown2 hgrow2 hiff2; clear hiff2; refine Hid.out ?_)
      have hb2 : Below w.heap.size w w2 := hb1.grown hgrow2 (by simp; omega) (by intro k hk; exact (HL.out k hk).1)
      rw [digV_append] at hown2
      have HO3 := hidden hown2
      clear hown2 hgrow2 HO HO1 HN1 HL hb1
      refine hidden ?_
      go_wp2
      go_roundw
      case rel =>
        refine ⟨k + 1, y / 65536, ds ++ [y % 65536], by omega, rfl, by omega, ?_, ?_, ?_, by simp [HLn.out], ?_, HO3.out, hb2⟩
        · have h1 := HY.out
          rw [Int.pow_succ, Int.mul_comm (65536 ^ k) 65536, ← Int.mul_assoc]
          have h2 : y / 65536 * 65536 ≤ y := by omega
          exact Int.le_trans (Int.mul_le_mul_of_nonneg_right h2 (Int.le_of_lt (Int.pow_pos (by decide)))) h1
        · intro d hd
          rcases List.mem_append.1 hd with h | h
          · exact HK.out d h
          · simp at h; omega
        · rw [nv_append, HLn.out, ← HV.out, Int.pow_succ]
          simp only [nv, Int.mul_zero, Int.add_zero]
          rw [Int.mul_assoc, Int.add_assoc, ← Int.mul_add]
          congr 2
          omega
        · right
          have e : (ds ++ [y % 65536]).getD (k + 1 - 1) 0 = y % 65536 := by
            have := HLn.out
            subst this
            simp
          rw [e]
          omega
      case measure => simp [intOf]; omega
    · obtain rfl : y = 0 := by omega
      obtain ⟨a, c, rfl, hrd⟩ := rdD_owned HO.out
      have HR := hidden hrd
      clear hrd
      go_wp2
      go_ret
      refine ⟨a, k, c, ds, rfl, HR.out, HK.out, ?_, hk, ?_, hbl⟩
      rotate_left
      · rcases HTP.out with h | h | h
        · exact .inl h
        · omega
        · exact .inr h
      have := HV.out
      rw [Int.mul_zero, Int.add_zero] at this
      exact this
theorem small_any (a : Option Addr) (len cap : Nat) (ds : List Int) (w : World) (hr : RdD w a len cap ds) (hok : OkD ds) (hl : (len : Int) ≤ 1000000) (hx : nv ds ≤ 18446744073709551615) :
    Calls Try.prog 48 #[.slice a len cap] w fun r w' => r = .returned (.int .u64 (nv ds)) ∧ w' = w := by
  obtain ⟨h1, h2, h3⟩ := hr
  have hnn := nv_nonneg ds hok
  -- the digits from place k on
  have hdrop : Hid (∀ k, k < len → nv (ds.drop k) = ds.getD k 0 + 65536 * nv (ds.drop (k + 1))) := hidden fun k hk => by
    rw [List.drop_eq_getElem_cons (by omega)]
    show ds[k] + 65536 * nv (ds.drop (k + 1)) = _
    simp [show k < ds.length by omega]
  have hdb : Hid (∀ k, 0 ≤ nv (ds.drop k) ∧ nv (ds.drop k) ≤ 18446744073709551615) := hidden fun k => by
    have hok2 : OkD (ds.drop k) := fun x hx => hok x (List.mem_of_mem_drop hx)
    refine ⟨nv_nonneg _ hok2, ?_⟩
    have e : nv ds = nv (ds.take k) + 65536 ^ (ds.take k).length * nv (ds.drop k) := by rw [← nv_append, List.take_append_drop]
    have h4 := nv_nonneg _ (hok.take k)
    have h5 : (1 : Int) ≤ 65536 ^ (ds.take k).length := Int.pow_pos (by decide)
    have h6 : 1 * nv (ds.drop k) ≤ 65536 ^ (ds.take k).length * nv (ds.drop k) := Int.mul_le_mul_of_nonneg_right h5 (nv_nonneg _ hok2)
    omega
  have hend : Hid (nv (ds.drop len) = 0) := hidden (by rw [List.drop_eq_nil_of_le (by omega)]; rfl)
  rcases h3 with ⟨rfl, rfl, rfl⟩ | ⟨b, off, rfl, hc⟩
  · obtain rfl := List.eq_nil_of_length_eq_zero h1
    go_enter Try.func48, Try.ntmps48
    go_wp2
    go_rounds 1
    go_ret
    exact ⟨rfl, rfl⟩
  · have HC := hidden hc
    have HOK := hidden hok
    clear hc hok
    go_enter Try.func48, Try.ntmps48
    go_wp2
    go_loop [3, 4] (fun x i => ∃ k : Nat, k ≤ len ∧ i = .int .i64 ((k : Int) - 1) ∧ x = .int .u64 (nv (ds.drop k))) (fun _ i => (intOf i + 1).toNat)
    case atStart => exact ⟨len, Nat.le_refl _, rfl, by rw [hend.out]⟩
    case round =>
      obtain ⟨k, hk, rfl, rfl⟩ := hrel
      by_cases hk0 : 0 < k
      · have hk1 : (0 : Int) ≤ (k : Int) - 1 := by omega
        have hcell := HC.out (k - 1) (by omega)
        have hnt : ((k : Int) - 1).toNat = k - 1 := by omega
        have hlt : (k : Int) - 1 < (len : Int) := by omega
        have hd := hdrop.out (k - 1) (by omega)
        rw [show k - 1 + 1 = k by omega] at hd
        have hb1 := hdb.out (k - 1)
        have hb2 := hdb.out k
        have hdg := HOK.out.at (k - 1)
        have HD := hidden hd
        have hb3 : nv (ds.drop k) * 65536 + ds.getD (k - 1) 0 ≤ 18446744073709551615 := by omega
        clear hd hb1
        generalize ds.getD (k - 1) 0 = D at *
        generalize nv (ds.drop k) = X at *
        go_wp2
        go_round
        case rel => exact ⟨k - 1, by omega, int_eq (by omega), int_eq (by rw [HD.out]; omega)⟩
        case measure => simp [intOf]; omega
      · obtain rfl : k = 0 := by omega
        go_wp2
        go_ret
        exact ⟨rfl, rfl⟩
end Go.Proofs.Ytkbeceedafkhcaa
