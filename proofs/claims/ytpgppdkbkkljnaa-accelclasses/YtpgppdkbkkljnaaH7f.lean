/- Contracts of package header's checkBytes and readNumbers for any bytes. -/
import Derived.Test.YtpgppdkbkkljnaaH7e
import Derived.Deep.Cut
import Derived.Deep.CutRange
import Derived.Deep.RegionWith
import Derived.Deep.RegionHeld3
namespace Go.Proofs.Ytpgppdkbkkljnaa
open Go.RowKit
set_option maxHeartbeats 1000000
set_option maxRecDepth 100000
set_option linter.unusedVariables false

theorem strB_inj : ∀ (S T : List Int), OkB S → OkB T → strB S = strB T → S = T
  | [], [], _, _, _ => rfl
  | [], b :: T, _, _, h => by simp [strB] at h
  | a :: S, [], _, _, h => by simp [strB] at h
  | a :: S, b :: T, hS, hT, h => by
    have h' : UInt8.ofNat a.toNat = UInt8.ofNat b.toNat ∧ strB S = strB T := by simpa [strB] using h
    have ha := hS a List.mem_cons_self
    have hb := hT b List.mem_cons_self
    have e1 := congrArg UInt8.toNat h'.1
    rw [UInt8.toNat_ofNat', UInt8.toNat_ofNat'] at e1
    have hab : a = b := by omega
    rw [hab, strB_inj S T (fun c hc => hS c (List.mem_cons_of_mem _ hc)) (fun c hc => hT c (List.mem_cons_of_mem _ hc)) h'.2]
theorem below_drewN {B : Nat} {w w' : World} (h : Below B w w') (n : Nat) : Below B w (w'.drewN n) := ⟨h.os, h.tape, h.output, h.size, h.block⟩
/-- the first fault of bytes that are to have a header, and its place -/
def cbytesR (zs : List Int) : Int × Int :=
  if 1048576 < zs.length then (3, 0) else if zs.take 4 ≠ glul.take zs.length then (63, 0) else if zs.length < 36 then (2, zs.length) else (0, 0)
theorem glul_ext (M : Nat) (h : M ≤ 4) : ((⟨#[71, 108, 117, 108]⟩ : ByteArray).extract 0 M).toList = strB (glul.take M) := by
  rw [ByteArray.toList_eq]
  obtain rfl | rfl | rfl | rfl | rfl : M = 0 ∨ M = 1 ∨ M = 2 ∨ M = 3 ∨ M = 4 := by omega
  all_goals rfl
theorem glul_ok (M : Nat) : OkB (glul.take M) := fun c hc => by
  have h := List.mem_of_mem_take hc
  simp [glul] at h
  omega
theorem take_min (zs : List Int) : zs.take 4 = seg zs 0 (min zs.length 4) := by
  unfold seg
  rw [List.drop_zero]
  rcases Nat.le_total zs.length 4 with h | h
  · rw [Nat.min_eq_left h, List.take_of_length_le h, List.take_of_length_le (Nat.le_refl _)]
  · rw [Nat.min_eq_right h]
theorem glul_min (n : Nat) : glul.take n = glul.take (min n 4) := by
  rcases Nat.le_total n 4 with h | h
  · rw [Nat.min_eq_left h]
  · rw [Nat.min_eq_right h, List.take_of_length_le (by simp [glul]; omega), List.take_of_length_le (by simp [glul])]
theorem cbytes_long (a : Option Addr) (L cap : Nat) (w : World) (hm : 1048576 < L) (h63 : L ≤ 9223372036854775807) :
    Calls Try.prog 56 #[.slice a L cap] w fun e w' => e = .returned (.tuple #[.int .i64 3, .int .i64 0]) ∧ Below w.heap.size w w' := by
  have g1 : (1048576 : Int) < (L : Int) := by omega
  go_enter Try.func56, Try.ntmps56
  go_wp2
  go_ret2
  exact ⟨rfl, Below.refl _ _⟩
theorem cbytes_some (g o L cap : Nat) (zs : List Int) (w : World) (h : Bs w g o L zs) (hb : OkB zs) (hcap : L ≤ cap) (hm : L ≤ 1048576) :
    Calls Try.prog 56 #[.slice (some ⟨g, o, none⟩) L cap] w fun e w' => e = .returned (.tuple #[.int .i64 (cbytesR zs).1, .int .i64 (cbytesR zs).2]) ∧ Below w.heap.size w w' := by
  have hlen := h.1
  have hr := h.sub 0 (min L 4) cap (by omega) (by omega)
  rw [Nat.add_zero] at hr
  have e1 : ∀ n, (convert 50 9 (.slice (some ⟨g, o, none⟩) (min L 4) cap)).run Try.prog (w.drewN n) = .ok (.string ⟨(strB (seg zs 0 (min L 4))).toArray⟩) (w.drewN n) := fun n => conv_reads _ _ _ _ _ (seg_okb hb 0 _) (hr.later (below_drewN (Below.refl _ _) n))
  have g1 : (L : Int) ≤ 1048576 := by omega
  have g3 : (if (4 : Int) < (L : Int) then (4 : Int) else (L : Int)) = ((min L 4 : Nat) : Int) := by split <;> omega
  have g4 : ((min L 4 : Nat) : Int) ≤ (cap : Int) := by omega
  have g5 : (0 : Int) ≤ ((min L 4 : Nat) : Int) := by omega
  have g6 : ((min L 4 : Nat) : Int) ≤ 4 := by omega
  have g7 : min L 4 ≤ 4 := by omega
  have hR : cbytesR zs = if seg zs 0 (min L 4) ≠ glul.take (min L 4) then (63, 0) else if L < 36 then (2, (L : Int)) else (0, 0) := by
    unfold cbytesR
    rw [if_neg (by omega), take_min, glul_min zs.length, hlen]
  have hok := seg_okb hb 0 (min L 4)
  obtain ⟨R, hHR⟩ : ∃ R, R = cbytesR zs := ⟨_, rfl⟩
  rw [← hHR]
  have HR := hidden (hHR.trans hR)
  clear h hr hHR hR hlen hb
  generalize min L 4 = M at *
  generalize seg zs 0 M = S at *
  by_cases c1 : S = glul.take M
  · rw [if_neg (not_not_intro c1)] at HR
    have k1 : (strB S == ((⟨#[71, 108, 117, 108]⟩ : ByteArray).extract 0 M).toList) = true := by rw [glul_ext M g7, c1]; simp
    clear c1
    generalize hQ : strB S = Q at *
    clear hQ
    by_cases c2 : L < 36
    · rw [if_pos c2] at HR
      obtain rfl := HR.out
      have c2' : (L : Int) < 36 := by omega
      clear HR
      go_enter Try.func56, Try.ntmps56
      go_upto_region 4 with fail
      go_quiet (fail)
      go_wp2
      go_ret2
      exact ⟨rfl, below_drewN (Below.refl _ _) _⟩
    · rw [if_neg c2] at HR
      obtain rfl := HR.out
      have c2' : (36 : Int) ≤ (L : Int) := by omega
      clear HR
      go_enter Try.func56, Try.ntmps56
      go_upto_region 4 with fail
      go_quiet (fail)
      go_wp2
      go_ret2
      exact ⟨rfl, below_drewN (Below.refl _ _) _⟩
  · rw [if_pos c1] at HR
    obtain rfl := HR.out
    have k1 : (strB S == ((⟨#[71, 108, 117, 108]⟩ : ByteArray).extract 0 M).toList) = false := by
      rw [glul_ext M g7]
      simp only [beq_eq_false_iff_ne, ne_eq]
      intro hE
      exact c1 (strB_inj _ _ hok (glul_ok M) hE)
    clear c1 HR
    generalize hQ : strB S = Q at *
    clear hQ
    go_enter Try.func56, Try.ntmps56
    go_upto_region 4 with fail
    go_quiet (fail)
    go_wp2
    go_ret2
    exact ⟨rfl, below_drewN (Below.refl _ _) _⟩
theorem cbytes_zero (a : Option Addr) (cap : Nat) (w : World) :
    Calls Try.prog 56 #[.slice a 0 cap] w fun e w' => e = .returned (.tuple #[.int .i64 2, .int .i64 0]) ∧ Below w.heap.size w w' := by
  have e1 : ∀ n, (convert 50 9 (.slice a 0 cap)).run Try.prog (w.drewN n) = .ok (.string ⟨#[]⟩) (w.drewN n) := fun n => by
    cases a with
    | none => exact run_convert_bytes_nil _ 50 5 Try.underlying50 Try.underlying5 0 cap 9 Try.underlying9
    | some x => exact conv_reads _ _ 0 cap [] (fun c hc => by cases hc) ⟨rfl, by omega, .inr ⟨x, rfl, fun i hi => by omega⟩⟩
  cases a with
  | none =>
    go_enter Try.func56, Try.ntmps56
    go_upto_region 4 with fail
    go_quiet (fail)
    go_wp2
    go_ret2
    exact ⟨rfl, below_drewN (Below.refl _ _) _⟩
  | some x =>
    go_enter Try.func56, Try.ntmps56
    go_upto_region 4 with fail
    go_quiet (fail)
    go_wp2
    go_ret2
    exact ⟨rfl, below_drewN (Below.refl _ _) _⟩
theorem cbytes_any (a : Option Addr) (L cap : Nat) (zs : List Int) (w : World) (h : Reads w a L cap zs) (hb : OkB zs) (hm : L ≤ 9223372036854775807) :
    Calls Try.prog 56 #[.slice a L cap] w fun e w' => e = .returned (.tuple #[.int .i64 (cbytesR zs).1, .int .i64 (cbytesR zs).2]) ∧ Below w.heap.size w w' := by
  by_cases h0 : L = 0
  · subst h0
    obtain rfl := List.eq_nil_of_length_eq_zero h.1
    exact cbytes_zero a cap w
  · by_cases h1 : 1048576 < L
    · have : cbytesR zs = (3, 0) := by unfold cbytesR; rw [if_pos (by rw [h.1]; exact h1)]
      rw [this]
      exact cbytes_long a L cap w h1 hm
    · obtain ⟨g, o, rfl, hB⟩ := h.bs (by omega)
      exact cbytes_some g o L cap zs w hB hb h.2.1 (by omega)
abbrev hdZ : Array Value := #[.int .u32 0, .int .u32 0, .int .u32 0, .int .u32 0, .int .u32 0, .int .u32 0, .int .u32 0, .int .u32 0]
/-- a header as a value -/
abbrev hdV (h : Hd) : Value := .agg #[.int .u32 h.v, .int .u32 h.ram, .int .u32 h.ext, .int .u32 h.en, .int .u32 h.st, .int .u32 h.start, .int .u32 h.tab, .int .u32 h.sum]
theorem readn_any (g o L cap : Nat) (zs : List Int) (w : World) (h : Bs w g o L zs) (hb : OkB zs) (hcap : L ≤ cap) (hL : 36 ≤ L) (hm : L ≤ 9223372036854775807) :
    Calls Try.prog 57 #[.slice (some ⟨g, o, none⟩) L cap] w fun e w' => e = .returned (.agg #[.int .u32 (beV zs 4 4), .int .u32 (beV zs 8 4), .int .u32 (beV zs 12 4), .int .u32 (beV zs 16 4), .int .u32 (beV zs 20 4), .int .u32 (beV zs 24 4), .int .u32 (beV zs 28 4), .int .u32 (beV zs 32 4)]) ∧ Below w.heap.size w w' := by
  have hb1 : Below w.heap.size w (w.alloc (.cells hdZ 70)) := (Below.refl _ _).alloc (Nat.le_refl _) _
  have HN : ∀ (p : Nat) (q : Int), q = p → p + 4 ≤ L → Hid (Calls Try.prog 73 #[.slice (some ⟨g, o, none⟩) L cap, .int .i64 q] (w.alloc (.cells #[.int .u32 0, .int .u32 0, .int .u32 0, .int .u32 0, .int .u32 0, .int .u32 0, .int .u32 0, .int .u32 0] 70)) fun e w' => e = .returned (.int .u32 (beV zs p 4)) ∧ w' = w.alloc (.cells #[.int .u32 0, .int .u32 0, .int .u32 0, .int .u32 0, .int .u32 0, .int .u32 0, .int .u32 0, .int .u32 0] 70)) := fun p q hq hp => hidden <| by
    subst hq
    exact hnum_any g o L cap p zs _ (h.later hb1) hb hp hcap (by omega)
  have H4 := HN 4 4 rfl (by omega)
  have H8 := HN 8 8 rfl (by omega)
  have H12 := HN 12 12 rfl (by omega)
  have H16 := HN 16 16 rfl (by omega)
  have H20 := HN 20 20 rfl (by omega)
  have H24 := HN 24 24 rfl (by omega)
  have H28 := HN 28 28 rfl (by omega)
  have H32 := HN 32 32 rfl (by omega)
  generalize beV zs 4 4 = v4 at *
  generalize beV zs 8 4 = v8 at *
  generalize beV zs 12 4 = v12 at *
  generalize beV zs 16 4 = v16 at *
  generalize beV zs 20 4 = v20 at *
  generalize beV zs 24 4 = v24 at *
  generalize beV zs 28 4 = v28 at *
  generalize beV zs 32 4 = v32 at *
  clear h HN hb1
  go_enter Try.func57, Try.ntmps57
  go_wp2_with (first | (go_at_call 73; (with_reducible refine H4.out.mono ?_); rintro e w9 ⟨rfl, hw⟩; obtain rfl := hw) | (go_at_call 73; (with_reducible refine H8.out.mono ?_); rintro e w9 ⟨rfl, hw⟩; obtain rfl := hw) | (go_at_call 73; (with_reducible refine H12.out.mono ?_); rintro e w9 ⟨rfl, hw⟩; obtain rfl := hw) | (go_at_call 73; (with_reducible refine H16.out.mono ?_); rintro e w9 ⟨rfl, hw⟩; obtain rfl := hw) | (go_at_call 73; (with_reducible refine H20.out.mono ?_); rintro e w9 ⟨rfl, hw⟩; obtain rfl := hw) | (go_at_call 73; (with_reducible refine H24.out.mono ?_); rintro e w9 ⟨rfl, hw⟩; obtain rfl := hw) | (go_at_call 73; (with_reducible refine H28.out.mono ?_); rintro e w9 ⟨rfl, hw⟩; obtain rfl := hw) | (go_at_call 73; (with_reducible refine H32.out.mono ?_); rintro e w9 ⟨rfl, hw⟩; obtain rfl := hw))
  refine bodyPost_ret (v := .agg #[.int .u32 v4, .int .u32 v8, .int .u32 v12, .int .u32 v16, .int .u32 v20, .int .u32 v24, .int .u32 v28, .int .u32 v32]) (by simp [results, Try.results57, go_sem]) rfl ⟨rfl, ?_⟩
  exact (Below.refl _ _).alloc (Nat.le_refl _) _
end Go.Proofs.Ytpgppdkbkkljnaa
