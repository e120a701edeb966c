/- Contracts of the small functions of package stack: numbers, multiples, widths, formats. -/
import Derived.Test.YthhkennomnmjkaaS10b
namespace Go.Proofs.Ythhkennomnmjkaa
open Go.RowKit
set_option maxHeartbeats 1000000
set_option maxRecDepth 100000
set_option linter.unusedVariables false

def nu (zs : List Int) (p : Nat) : Nat := (beV zs p 4).toNat
theorem nu_of {zs : List Int} (hb : OkB zs) (p : Nat) : beV zs p 4 = (nu zs p : Int) := by
  have := (beV_bd zs p hb).1
  unfold nu; omega
theorem nu_lt {zs : List Int} (hb : OkB zs) (p : Nat) : nu zs p < 4294967296 := by
  have := beV_bd zs p hb
  unfold nu; omega
theorem int_eq {k : IntKind} {a b : Int} (h : a = b) : Value.int k a = Value.int k b := by rw [h]
theorem knum_any (a : Option Addr) (n c p : Nat) (zs : List Int) (w : World) (h : Reads w a n c zs) (hb : OkB zs) (hp : p + 4 ≤ n) (hn : n ≤ 2000000) :
    Calls Try.prog 54 #[.slice a n c, .int .i64 p] w fun e w' => e = .returned (.int .u32 (nu zs p)) ∧ w' = w := by
  have hc : n ≤ c := h.2.1
  obtain ⟨g, o, rfl, hB⟩ := h.bs (by omega)
  have HB := hidden (be_any g o n c zs (p : Int) 4 w (.inr (.inr rfl)) (by omega) (by omega) (by omega) hc hB.2 hb)
  rw [Int.toNat_natCast, nu_of hb] at HB
  clear h hb hB
  generalize (nu zs p : Int) = X at *
  go_enter Try.func54, Try.ntmps54
  go_wp2_with (go_at_call 70; refine HB.out.mono ?_; rintro e w1 ⟨rfl, rfl⟩)
  go_ret
  exact ⟨rfl, rfl⟩
theorem klast_any (a : Option Addr) (n c : Nat) (zs : List Int) (w : World) (h : Reads w a n c zs) (hb : OkB zs) (hp : 4 ≤ n) (hn : n ≤ 2000000) :
    Calls Try.prog 83 #[.slice a n c] w fun e w' => e = .returned (.int .u32 (nu zs (n - 4))) ∧ w' = w := by
  have HN := hidden (knum_any a n c (n - 4) zs w h hb (by omega) hn)
  have e : ((n - 4 : Nat) : Int) = (n : Int) - 4 := by omega
  rw [e] at HN
  have hw : IntKind.i64.wrap ((n : Int) - 4) = (n : Int) - 4 := by rw [IntKind.wrap_i64]; omega
  clear h hb e
  generalize (nu zs (n - 4) : Int) = X at *
  go_enter Try.func83, Try.ntmps83
  go_wp2_with (go_at_call 54; refine HN.out.mono ?_; rintro e w1 ⟨rfl, rfl⟩)
  go_ret
  exact ⟨rfl, rfl⟩
theorem tmod_fix (x : Int) (n : Nat) (h : 0 < n) : (x.tmod n + n).tmod n = x % n := by
  have hn : (0 : Int) < n := by omega
  have h1 := Int.lt_tmod_of_pos x hn
  have h2 := Int.tmod_lt_of_pos x hn
  rw [Int.tmod_eq_emod_of_nonneg (by omega)]
  rw [Int.add_emod_right]
  rw [Int.tmod_eq_emod]
  split
  · simp
  · rw [Int.sub_emod]
    simp
theorem krest_any (x : Int) (n : Nat) (w : World) (h : 0 < n) (hn : n ≤ 4294967296) :
    Calls Try.prog 53 #[.int .i64 x, .int .i64 n] w fun e w' => e = .returned (.int .i64 (x % n)) ∧ w' = w := by
  have hn' : (0 : Int) < n := by omega
  have h1 := Int.lt_tmod_of_pos x hn'
  have h2 := Int.tmod_lt_of_pos x hn'
  have h3 := tmod_fix x n h
  have h4 := Int.emod_nonneg x (show (n : Int) ≠ 0 by omega)
  have h5 := Int.emod_lt_of_pos x hn'
  have hz : ¬ (n : Int) = 0 := by omega
  have hz2 : ((n : Int) == 0) = false := by simpa using hz
  have w1 : IntKind.i64.wrap (x.tmod n) = x.tmod n := by rw [IntKind.wrap_i64]; omega
  have w2 : IntKind.i64.wrap (x.tmod n + n) = x.tmod n + n := by rw [IntKind.wrap_i64]; omega
  have w3 : IntKind.i64.wrap (x % n) = x % n := by rw [IntKind.wrap_i64]; omega
  have w64 := hidden (show wrap64 (x.tmod n + n) = x.tmod n + n by unfold wrap64; omega)
  clear h1 h2 h4 h5
  have W2 := hidden w2
  have W3 := hidden w3
  have H3 := hidden h3
  clear w2 w3 h3 w1
  go_enter Try.func53, Try.ntmps53
  go_wp2
  go_ret
  refine ⟨ret_int ?_, rfl⟩
  rw [w64.out]
  exact H3.out
theorem kup_any (x n : Nat) (w : World) (h : n = 1 ∨ n = 2 ∨ n = 4) (hx : x ≤ 4294967296000) :
    Calls Try.prog 82 #[.int .i64 x, .int .i64 n] w fun e w' => e = .returned (.int .i64 (upN x n)) ∧ w' = w := by
  have hu := upN_bd x n h
  have HR := hidden (krest_any (-(x : Int)) n w (by omega) (by omega))
  have e : -(x : Int) % (n : Int) = (upN x n : Int) - x := by
    rcases h with rfl | rfl | rfl
    · rw [upN_one]; omega
    · rw [upN_two]; omega
    · rw [upN_four]; omega
  rw [e] at HR
  have w1 : IntKind.i64.wrap (-(x : Int)) = -(x : Int) := by rw [IntKind.wrap_i64]; omega
  have w2 : IntKind.i64.wrap ((x : Int) + ((upN x n : Int) - x)) = (upN x n : Int) := by rw [IntKind.wrap_i64]; omega
  clear e
  generalize upN x n = U at *
  go_enter Try.func82, Try.ntmps82
  go_wp2_with (go_at_call 53; refine HR.out.mono ?_; rintro e w1 ⟨rfl, rfl⟩)
  go_ret
  first | exact ⟨rfl, rfl⟩ | (refine ⟨?_, rfl⟩; first | (congr 2; omega) | simp_all)
theorem kwid_yes (n : Int) (w : World) (h : n = 1 ∨ n = 2 ∨ n = 4) : Calls Try.prog 80 #[.int .i64 n] w fun e w' => e = .returned (.bool true) ∧ w' = w := by
  rcases h with rfl | rfl | rfl
  all_goals (
    go_enter Try.func80, Try.ntmps80
    go_wp2
    go_ret
    exact ⟨rfl, rfl⟩)
theorem kwid_no (n : Int) (w : World) (h : ¬ (n = 1 ∨ n = 2 ∨ n = 4)) : Calls Try.prog 80 #[.int .i64 n] w fun e w' => e = .returned (.bool false) ∧ w' = w := by
  have h1 : (n == 1) = false := by simp; omega
  have h2 : (n == 2) = false := by simp; omega
  have h4 : (n == 4) = false := by simp; omega
  clear h
  go_enter Try.func80, Try.ntmps80
  go_wp2
  go_ret
  exact ⟨rfl, rfl⟩
theorem kfend_any (a : Option Addr) (n c f : Nat) (zs : List Int) (w : World) (h : Reads w a n c zs) (hb : OkB zs) (hp : f + 4 ≤ n) (hn : n ≤ 2000000) :
    Calls Try.prog 84 #[.slice a n c, .int .i64 f] w fun e w' => e = .returned (.int .i64 (f + nu zs f : Nat)) ∧ w' = w := by
  have HN := hidden (knum_any a n c f zs w h hb hp hn)
  have hlt := nu_lt hb f
  clear h hb
  generalize nu zs f = X at *
  have w1 : IntKind.i64.wrap (X : Int) = (X : Int) := by rw [IntKind.wrap_i64]; omega
  have w2 : IntKind.i64.wrap ((f : Int) + (X : Int)) = (f : Int) + (X : Int) := by rw [IntKind.wrap_i64]; omega
  go_enter Try.func84, Try.ntmps84
  go_wp2_with (go_at_call 54; refine HN.out.mono ?_; rintro e w1 ⟨rfl, rfl⟩)
  go_ret
  exact ⟨ret_int (by omega), rfl⟩
/-- the world but for its draws -/
def Dr (w w' : World) : Prop := ∃ m, w' = w.drewN m
theorem Dr.refl (w : World) : Dr w w := ⟨0, rfl⟩
theorem drewN_add (w : World) (a b : Nat) : (w.drewN a).drewN b = w.drewN (a + b) := by rw [World.drewN_drewN]
theorem Dr.more {w w1 : World} (h : Dr w w1) (n : Nat) : Dr w (w1.drewN n) := by
  obtain ⟨m, rfl⟩ := h
  exact ⟨m + n, drewN_add w m n⟩
theorem Dr.trans {w w1 w2 : World} (h : Dr w w1) (h' : Dr w1 w2) : Dr w w2 := by
  obtain ⟨n, rfl⟩ := h'
  exact h.more n
theorem Dr.below {w w1 : World} (h : Dr w w1) : Below w.heap.size w w1 := by
  obtain ⟨m, rfl⟩ := h
  exact ⟨rfl, rfl, rfl, Nat.le_refl _, fun _ _ => rfl⟩
/-- what formatOf answers -/
def FoRet (w w' : World) (a : Option Addr) (c : Nat) (zs : List Int) (e : Ending) : Prop :=
  Dr w w' ∧ (if fmtL zs = 0 then e = .returned (.tuple #[.slice none 0 0, .bool false]) else e = .returned (.tuple #[.slice a (fmtL zs) c, .bool true]))
theorem kfmt_any (a : Option Addr) (n c : Nat) (zs : List Int) (w : World) (h : Reads w a n c zs) (hb : OkB zs) (hn : n ≤ 2000000) :
    Calls Try.prog 45 #[.slice a n c] w fun e w' => FoRet w w' a c zs e := by
  have hz := hidden h.1
  have hc : n ≤ c := h.2.1
  have HR := hidden h
  have HO := hidden hb
  clear h hb
  go_enter Try.func45, Try.ntmps45
  go_wp2
  go_loopw [4] (fun i w' => ∃ k : Nat, k ≤ n + 1 ∧ i = .int .i64 k ∧ Hid (fmtL zs = fmtF zs k) ∧ Hid (Dr w w')) (fun i _ => n + 2 - (intOf i).toNat)
  case atStart => exact ⟨0, by omega, rfl, (fmtF_zero zs).symm, Dr.refl _⟩
  case round =>
    obtain ⟨k, hk, rfl, HF, HB⟩ := hrel
    by_cases hlt : k + 1 < n
    · obtain ⟨g, o, rfl, hB⟩ := (HR.out.later HB.out.below).bs (by omega)
      have hl' : k + 1 < zs.length := by rw [hz.out]; exact hlt
      have c0 := hB.2 k (by omega)
      have c1 := hB.2 (k + 1) (by omega)
      have b0 := okb_at HO.out k
      have b1 := okb_at HO.out (k + 1)
      have fe := hidden (fmtF_end zs k hl')
      have fb := hidden (fmtF_bad zs k hl')
      have fn := hidden (fmtF_next zs k hl')
      generalize zs.getD k 0 = x at *
      generalize zs.getD (k + 1) 0 = y at *
      clear hB hl'
      have d1 : (k : Int) + 1 < (n : Int) := by omega
      have hw : IntKind.i64.wrap ((k : Int) + 1) = (k : Int) + 1 := by rw [IntKind.wrap_i64]; omega
      have hw2 : IntKind.i64.wrap ((k : Int) + 2) = (k : Int) + 2 := by rw [IntKind.wrap_i64]; omega
      have t1 : ((k : Int) + 1).toNat = k + 1 := by omega
      have t2 : ((k : Int) + 2).toNat = k + 2 := by omega
      have c1' : wr.cell? ⟨g, o + ((k : Int) + 1).toNat, none⟩ = some (.int .u8 y) := by rw [t1]; exact c1
      by_cases e0 : x = 0 ∧ y = 0
      · obtain ⟨rfl, rfl⟩ := e0
        have hF := HF.out.trans (fe.out rfl rfl)
        have k3 : ((k : Int) + 2) ≤ (c : Int) := by omega
        go_wp2
        go_quiet (fail)
        all_goals (try go_wp2)
        go_ret2
        refine ⟨HB.out.more _, ?_⟩
        rw [if_neg (by omega), hF]
        try rfl
      · by_cases e1 : (x = 1 ∨ x = 2 ∨ x = 4) ∧ ¬ y = 0
        · have e2 : ((x == 0) && (y == 0)) = false := by
            rw [show (y == 0) = false by simpa using e1.2]; simp
          have hF := HF.out.trans (fn.out e1)
          have HW := hidden fun wx => kwid_yes x wx e1.1
          have q1 : (x == 0) = false := by simp; omega
          have q2 : (y == 0) = false := by simpa using e1.2
          have wx8 : IntKind.i64.wrap x = x := by rw [IntKind.wrap_i64]; omega
          clear e2
          go_wp2
          go_quiet (fail)
          all_goals (try go_wp2_with (go_at_call 80; refine (HW.out _).mono ?_; rintro e w1 ⟨rfl, rfl⟩))
          go_roundw
          case rel => exact ⟨k + 2, by omega, int_eq (by omega), hF, HB.out.more _⟩
          case measure => simp [intOf]; omega
        · have hF := HF.out.trans (fb.out e0 e1)
          have wx8 : IntKind.i64.wrap x = x := by rw [IntKind.wrap_i64]; omega
          by_cases e2 : x = 1 ∨ x = 2 ∨ x = 4
          · have HW := hidden fun wx => kwid_yes x wx e2
            have q1 : (x == 0) = false := by simp; omega
            obtain rfl : y = 0 := by omega
            go_wp2
            go_quiet (fail)
            all_goals (try go_wp2_with (go_at_call 80; refine (HW.out _).mono ?_; rintro e w1 ⟨rfl, rfl⟩))
            go_ret2
            refine ⟨HB.out.more _, ?_⟩
            rw [if_pos hF]; rfl
          · have HW := hidden fun wx => kwid_no x wx e2
            have q1 : (x == 0) = false ∨ (y == 0) = false := by simp; omega
            rcases q1 with q1 | q1
            · go_wp2
              go_quiet (fail)
              all_goals (try go_wp2_with (go_at_call 80; refine (HW.out _).mono ?_; rintro e w1 ⟨rfl, rfl⟩))
              go_ret2
              refine ⟨HB.out.more _, ?_⟩
              rw [if_pos hF]; rfl
            · by_cases q2 : x = 0
              · subst q2
                go_wp2
                go_quiet (fail)
                all_goals (try go_wp2_with (go_at_call 80; refine (HW.out _).mono ?_; rintro e w1 ⟨rfl, rfl⟩))
                go_ret2
                refine ⟨HB.out.more _, ?_⟩
                rw [if_pos hF]; rfl
              · have q2' : (x == 0) = false := by simpa using q2
                go_wp2
                go_quiet (fail)
                all_goals (try go_wp2_with (go_at_call 80; refine (HW.out _).mono ?_; rintro e w1 ⟨rfl, rfl⟩))
                go_ret2
                refine ⟨HB.out.more _, ?_⟩
                rw [if_pos hF]; rfl
    · have hF := HF.out.trans (fmtF_none zs k (by rw [hz.out]; exact hlt))
      have d1 : ¬ (k : Int) + 1 < (n : Int) := by omega
      have hw : IntKind.i64.wrap ((k : Int) + 1) = (k : Int) + 1 := by rw [IntKind.wrap_i64]; omega
      go_wp2
      go_ret2
      refine ⟨HB.out, ?_⟩
      rw [if_pos hF]; rfl
end Go.Proofs.Ythhkennomnmjkaa
