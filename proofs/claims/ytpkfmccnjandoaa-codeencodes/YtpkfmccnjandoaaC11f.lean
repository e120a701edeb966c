/- Contracts of package code's small functions: width, isConst, mayBe, number, told, opForm, modesSize. -/
import Derived.Test.YtpkfmccnjandoaaC11c
namespace Go.Proofs.Ytpkfmccnjandoaa
open Go.RowKit
set_option maxHeartbeats 1000000
set_option maxRecDepth 100000
set_option linter.unusedVariables false

def widL : List (Int × (Int × Bool)) := [(0, (0, true)), (8, (0, true)), (1, (1, true)), (5, (1, true)), (9, (1, true)), (13, (1, true)), (2, (2, true)), (6, (2, true)), (10, (2, true)), (14, (2, true)), (3, (4, true)), (7, (4, true)), (11, (4, true)), (15, (4, true))]
/-- how many bytes a mode has; is it one? -/
def widI (m : Int) : Int := (lookV m (0, false) widL).1
def okM (m : Int) : Bool := (lookV m (0, false) widL).2
def widN (m : Int) : Nat := (widI m).toNat
def isC (m : Int) : Bool := m == 1 || m == 2 || m == 3
def mayB (c m : Int) : Bool := okM m && !(c == 83 && isC m)
theorem look_all_w {X : Type} (P : X → Prop) (op : Int) (d : X) : ∀ l : List (Int × X), P d → (∀ p ∈ l, P p.2) → P (lookV op d l)
  | [], hd, _ => hd
  | p :: l, hd, h => by
    unfold lookV
    split
    · exact h p (by simp)
    · exact look_all_w P op d l hd fun q hq => h q (by simp [hq])
theorem wid_cases (m : Int) : widI m = 0 ∨ widI m = 1 ∨ widI m = 2 ∨ widI m = 4 := by
  have := look_all_w (fun x : Int × Bool => x.1 = 0 ∨ x.1 = 1 ∨ x.1 = 2 ∨ x.1 = 4) m (0, false) widL (.inl rfl) (by decide)
  exact this
theorem widN_cases (m : Int) : widN m = 0 ∨ widN m = 1 ∨ widN m = 2 ∨ widN m = 4 := by
  have := wid_cases m
  unfold widN; omega
theorem widI_nat (m : Int) : widI m = (widN m : Int) := by
  have := wid_cases m
  unfold widN; omega
def noOrc' : Orc := fun _ _ => none
theorem noOrc_ok' (P : Program) : OrcOk P noOrc' := fun f args v h => by cases h
def rdWid (e : Exit) (a : Act) : Option (Int × Bool) := match e, (a.tmps[2]? : Option Value), (a.tmps[3]? : Option Value), a.defers with
  | .ret, some (.int .i64 x), some (.bool b), [] => some (x, b)
  | _, _, _, _ => none
theorem rdWid_some {e : Exit} {a : Act} {x : Int × Bool} (h : rdWid e a = some x) : e = .ret ∧ a.tmps[2]? = some (.int .i64 x.1) ∧ a.tmps[3]? = some (.bool x.2) ∧ a.defers = [] := by
  unfold rdWid at h
  split at h
  · rename_i s b h2 h3 h4
    simp only [Option.some.injEq] at h
    subst h
    exact ⟨rfl, h2, h3, h4⟩
  · cases h
theorem kwid_tree (m : Int) : ∃ c, Try.f49.body = some c ∧ (trC noOrc' c { tmps := #[.int .i64 m] ++ Array.replicate (Try.f49.ntmps - 1) undef, defers := [] } .leaf).view rdWid = chainV m (0, false) widL := ⟨_, rfl, by kernel_rfl⟩
theorem kwidth_any (m : Int) (w : World) :
    Calls Try.prog 49 #[.int .i64 m] w fun e w' => e = .returned (.tuple #[.int .i64 (widI m), .bool (okM m)]) ∧ w' = w := by
  obtain ⟨c, hb, ht⟩ := kwid_tree m
  refine switch_calls (noOrc_ok' _) Try.func49 hb rdWid m _ widL ht fun e a x hx he => ?_
  obtain ⟨rfl, h2, h3, h4⟩ := rdWid_some hx
  subst he
  refine ⟨h4, .tuple #[.int .i64 (widI m), .bool (okM m)], ?_, rfl, rfl⟩
  rw [results_tmp2 Try.results49]
  simp [h2, h3, widI, okM]
theorem kconst_any (m : Int) (w : World) :
    Calls Try.prog 51 #[.int .i64 m] w fun e w' => e = .returned (.bool (isC m)) ∧ w' = w := by
  unfold isC
  by_cases h1 : m = 1
  · subst h1
    go_enter Try.func51, Try.ntmps51
    go_wp2
    go_ret
    exact ⟨rfl, rfl⟩
  by_cases h2 : m = 2
  · subst h2
    go_enter Try.func51, Try.ntmps51
    go_wp2
    go_ret
    exact ⟨rfl, rfl⟩
  have q1 : (m == 1) = false := by simpa using h1
  have q2 : (m == 2) = false := by simpa using h2
  rw [q1, q2]
  go_enter Try.func51, Try.ntmps51
  go_wp2
  go_ret
  exact ⟨rfl, rfl⟩
theorem kmay_any (c m : Int) (w : World) :
    Calls Try.prog 34 #[.int .u8 c, .int .i64 m] w fun e w' => e = .returned (.bool (mayB c m)) ∧ w' = w := by
  have HW := hidden fun wx => kwidth_any m wx
  have HC := hidden fun wx => kconst_any m wx
  unfold mayB
  generalize widI m = n at *
  generalize okM m = ok at *
  generalize isC m = cn at *
  by_cases hs : c = 83
  · subst hs
    cases ok <;> cases cn
    all_goals (
      go_enter Try.func34, Try.ntmps34
      go_wp2_with (first | (go_at_call 49; refine (HW.out _).mono ?_; rintro e w1 ⟨rfl, rfl⟩) | (go_at_call 51; refine (HC.out _).mono ?_; rintro e w1 ⟨rfl, rfl⟩))
      go_ret
      exact ⟨rfl, rfl⟩)
  · have q1 : (c == 83) = false := by simpa using hs
    rw [q1]
    cases ok
    all_goals (
      go_enter Try.func34, Try.ntmps34
      go_wp2_with (first | (go_at_call 49; refine (HW.out _).mono ?_; rintro e w1 ⟨rfl, rfl⟩) | (go_at_call 51; refine (HC.out _).mono ?_; rintro e w1 ⟨rfl, rfl⟩))
      go_ret
      exact ⟨rfl, rfl⟩)
/-- the number that some bytes say; of none 0 -/
def beN (zs : List Int) : Int := if zs.length = 0 then 0 else beV zs 0 zs.length
def toldV (m : Int) (zs : List Int) : Int := if isC m then extW (beN zs) zs.length else beN zs
theorem knumb_any (a : Option Addr) (n c : Nat) (zs : List Int) (w : World) (h : Reads w a n c zs) (hb : OkB zs) (hn : n = 0 ∨ n = 1 ∨ n = 2 ∨ n = 4) :
    Calls Try.prog 47 #[.slice a n c] w fun e w' => e = .returned (.int .u32 (beN zs)) ∧ w' = w := by
  have hl := h.1
  have hc : n ≤ c := h.2.1
  unfold beN
  rw [hl]
  by_cases h0 : n = 0
  · subst h0
    rw [if_pos rfl]
    have HB := hidden (be_bad (.slice a (0 : Nat) c) 0 0 w rfl rfl rfl)
    clear h hb hl
    go_enter Try.func47, Try.ntmps47
    go_wp2_with (go_at_call 44; refine HB.out.mono ?_; rintro e w1 ⟨rfl, rfl⟩)
    go_ret
    exact ⟨rfl, rfl⟩
  · rw [if_neg h0]
    obtain ⟨g, o, rfl, hB⟩ := h.bs (by omega)
    have HB := hidden (be_any g o n c zs 0 n w (by unfold IsW; omega) (by omega) (by omega) (by omega) hc hB.2 hb)
    rw [show (0 : Int).toNat = 0 from rfl] at HB
    clear h hb hB
    generalize beV zs 0 n = X at *
    go_enter Try.func47, Try.ntmps47
    go_wp2_with (go_at_call 44; refine HB.out.mono ?_; rintro e w1 ⟨rfl, rfl⟩)
    go_ret
    exact ⟨rfl, rfl⟩
theorem ktold_any (m : Int) (a : Option Addr) (n c : Nat) (zs : List Int) (w : World) (h : Reads w a n c zs) (hb : OkB zs) (hn : n = 0 ∨ n = 1 ∨ n = 2 ∨ n = 4) :
    Calls Try.prog 35 #[.int .i64 m, .slice a n c] w fun e w' => e = .returned (.int .u32 (toldV m zs)) ∧ w' = w := by
  have HC := hidden fun wx => kconst_any m wx
  have HN := hidden (knumb_any a n c zs w h hb hn)
  have hl := h.1
  unfold toldV
  rw [hl]
  have HX := hidden fun wx => ext_any (beN zs) n wx
  clear h hb
  generalize beN zs = X at *
  generalize extW X n = Y at *
  cases hm : isC m
  all_goals (
    rw [hm] at HC
    simp only [if_true, if_false, Bool.false_eq_true]
    go_enter Try.func35, Try.ntmps35
    go_wp2_with (first | (go_at_call 51; refine (HC.out _).mono ?_; rintro e w1 ⟨rfl, rfl⟩) | (go_at_call 47; refine HN.out.mono ?_; rintro e w1 ⟨rfl, rfl⟩) | (go_at_call 52; refine (HX.out _).mono ?_; rintro e w1 ⟨rfl, rfl⟩))
    go_ret
    exact ⟨rfl, rfl⟩)
/-- in how many bytes a number is laid whose first byte is that one, and what is added to it there -/
def formR (x : Int) : Nat × Int := if x < 128 then (1, 0) else if x < 192 then (2, 32768) else (4, 3221225472)
theorem kform_any (x : Int) (w : World) (h : 0 ≤ x ∧ x ≤ 255) :
    Calls Try.prog 45 #[.int .u32 x] w fun e w' => e = .returned (.tuple #[.int .i64 (formR x).1, .int .u32 (formR x).2]) ∧ w' = w := by
  unfold formR
  by_cases h1 : x < 128
  · rw [if_pos h1]
    go_enter Try.func45, Try.ntmps45
    go_wp2
    go_ret2
    exact ⟨rfl, rfl⟩
  · rw [if_neg h1]
    by_cases h2 : x < 192
    · rw [if_pos h2]
      go_enter Try.func45, Try.ntmps45
      go_wp2
      go_ret2
      exact ⟨rfl, rfl⟩
    · rw [if_neg h2]
      go_enter Try.func45, Try.ntmps45
      go_wp2
      go_ret2
      exact ⟨rfl, rfl⟩
theorem kmsz_any (n : Nat) (w : World) (h : n ≤ 1000) :
    Calls Try.prog 54 #[.int .i64 n] w fun e w' => e = .returned (.int .i64 ((n + 1) / 2 : Nat)) ∧ w' = w := by
  have hw : IntKind.i64.wrap ((n : Int) + 1) = (n : Int) + 1 := by rw [IntKind.wrap_i64]; omega
  have ht : ((n : Int) + 1).tdiv 2 = (((n + 1) / 2 : Nat) : Int) := by rw [Int.tdiv_eq_ediv_of_nonneg (by omega)]; omega
  have hw2 : IntKind.i64.wrap (((n + 1) / 2 : Nat) : Int) = (((n + 1) / 2 : Nat) : Int) := by rw [IntKind.wrap_i64]; omega
  go_enter Try.func54, Try.ntmps54
  go_wp2
  go_ret
  first | exact ⟨rfl, rfl⟩ | exact ⟨ret_int (by omega), rfl⟩
end Go.Proofs.Ytpkfmccnjandoaa
