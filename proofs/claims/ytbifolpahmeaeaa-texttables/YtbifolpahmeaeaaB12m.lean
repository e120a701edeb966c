/- Contract of package text's places: which one each character of an alphabet is. -/
import Derived.Test.YtbifolpahmeaeaaB12c
import Derived.Maps.Own
import Derived.Maps.OwnOps
import Derived.Maps.OwnSet
import Derived.Maps.Views
namespace Go.Proofs.Ytbifolpahmeaeaa
open Go.RowKit Go.Maps
set_option maxHeartbeats 1000000
set_option maxRecDepth 100000
set_option linter.unusedVariables false

theorem law32 : Keyed Try.prog 22 := int_keyed Try.underlying22
theorem zeroI (w : World) : (zeroValue 3).run Try.prog w = .ok (.int .i64 0) w := by kernel_rfl
theorem key32 (x : Nat) (h : x < 4294967296) : keyOf Try.prog 22 (.int .u32 (x : Int)) = some (.int .u32 (x : Int)) := keyOf_int_mk Try.underlying22 (by simp [Lit.wf, IntKind.min, IntKind.max, IntKind.signed, IntKind.bits]; omega)
/-- the map of the first k characters -/
def mapTo (xs : List Nat) : Nat → DataW Unit
  | 0 => .map []
  | k + 1 => (mapTo xs k).put (.int .u32 ((xs.getD k 0 : Nat) : Int)) (.lit (.int .i64 (k : Int)))
theorem mapTo_map (xs : List Nat) : ∀ k, IsMap (mapTo xs k)
  | 0 => isMap_empty
  | k + 1 => (mapTo_map xs k).put _ _
theorem lit_ne {a b : Nat} (h : a ≠ b) : (Lit.int .u32 (a : Int)) ≠ .int .u32 (b : Int) := by
  intro e
  simp only [Lit.int.injEq] at e
  omega
theorem mapTo_has (xs : List Nat) (c : Nat) : ∀ k, k ≤ xs.length → Maps.has (mapTo xs k) (.int .u32 (c : Int)) = decide (c ∈ xs.take k)
  | 0, _ => by simp [mapTo, Maps.has]
  | k + 1, h => by
    have hg : xs.take (k + 1) = xs.take k ++ [xs.getD k 0] := by
      rw [List.take_succ_eq_append_getElem (by omega)]
      simp [List.getD_eq_getElem?_getD, show k < xs.length by omega]
    rw [hg]
    unfold mapTo
    by_cases e : c = xs.getD k 0
    · rw [← e, has_put_same (mapTo_map xs k) (by trivial)]
      simp
    · rw [has_put_other (lit_ne e), mapTo_has xs c k (by omega)]
      congr 1
      simp only [List.mem_append, List.mem_singleton, e, or_false]
theorem mapTo_at (xs : List Nat) (c i : Nat) : ∀ k, k ≤ xs.length → (xs.take k).Nodup → i < k → xs.getD i 0 = c → ∀ z, (mapTo xs k).atKey (.int .u32 (c : Int)) z = .lit (.int .i64 (i : Int))
  | 0, _, _, hi, _, _ => by omega
  | k + 1, h, hn, hi, hc, z => by
    have hg : xs.take (k + 1) = xs.take k ++ [xs.getD k 0] := by
      rw [List.take_succ_eq_append_getElem (by omega)]
      simp [List.getD_eq_getElem?_getD, show k < xs.length by omega]
    rw [hg] at hn
    obtain ⟨n1, n2, n3⟩ := List.nodup_append.1 hn
    unfold mapTo
    by_cases e : i = k
    · subst e
      rw [hc, atKey_put_same (mapTo_map xs i) (by trivial)]
    · have hne : c ≠ xs.getD k 0 := by
        rw [← hc]
        refine n3 _ ?_ _ (by simp)
        have hik : i < (xs.take k).length := by simp; omega
        have : (xs.take k)[i] = xs.getD i 0 := by simp [List.getD_eq_getElem?_getD, show i < xs.length by omega]
        rw [← this]
        exact List.getElem_mem hik
      rw [atKey_put_other (lit_ne hne)]
      exact mapTo_at xs c i k (by omega) n1 (by omega) hc z
/-- what places answers: the error -/
def plE (xs : List Nat) : Nat := if 1024 < xs.length then 4 else if xs.Nodup then 0 else 6
def PcRet (w : World) (xs : List Nat) (n E : Nat) (r : Ending) (w' : World) : Prop :=
  Below w.heap.size w w' ∧ ((E ≠ 0 ∧ r = .returned (.tuple #[.map none, .int .i64 E])) ∨ (E = 0 ∧ ∃ b, r = .returned (.tuple #[.map (some b), .int .i64 0]) ∧ w.heap.size ≤ b ∧ w'.ownsMap (H := Unit) Try.prog 22 (plainElem Try.prog 3) b n (mapTo xs n)))
theorem tplaces_any (a : Option Addr) (n cap : Nat) (xs : List Nat) (w : World) (hv : VRow w a n xs) (hn : n ≤ 100000) :
    Calls Try.prog 17 #[.slice a n cap] w (PcRet w xs n (plE xs)) := by
  have hmm : ∀ w1 : World, (Instr.makeMap 49 (some (.int .i64 (n : Int)))).run Try.prog w1 = .ok (.map (some w1.heap.size)) (w1.alloc (.map #[] 0)) := fun w1 => by
    simp [Instr.makeMap, asInt, asIntOf]
  have hln := hv.ln
  have HV : Hid (VRow w a n xs) := hv
  by_cases hbig : 1024 < n
  · have hE : plE xs = 4 := by unfold plE; rw [if_pos (by omega)]
    rw [hE]
    have d1 : (1024 : Int) < (n : Int) := by omega
    go_enter Try.func17, Try.ntmps17
    go_wp2
    go_ret2
    exact ⟨Below.refl _ _, .inl ⟨by decide, rfl⟩⟩
  have d1 : ¬ (1024 : Int) < (n : Int) := by omega
  obtain ⟨E, hE⟩ : ∃ E, E = plE xs := ⟨_, rfl⟩
  rw [← hE]
  have HE := hidden hE
  clear hE hv
  go_enter Try.func17, Try.ntmps17
  go_wp2
  go_loopw [17] (fun i wr => ∃ k : Nat, k ≤ n ∧ i = .int .i64 k ∧ Hid ((xs.take k).Nodup) ∧ Hid (wr.ownsMap (H := Unit) Try.prog 22 (plainElem Try.prog 3) w.heap.size k (mapTo xs k)) ∧ Hid (Below w.heap.size w wr)) (fun i _ => n - (intOf i).toNat)
  case atStart => exact ⟨0, by omega, rfl, by simp [Hid], World.ownsMap_made _ _ _ _, (Below.refl _ _).alloc (Nat.le_refl _) _⟩
  case round =>
    obtain ⟨k, hk, rfl, HND, HO, HB⟩ := hrel
    by_cases hlt : k < n
    · have d2 : (k : Int) < (n : Int) := by omega
      obtain ⟨b, o, rfl, hc⟩ := HV.out.cells k hlt
      have hcx := cellLater HB.out hc
      have hxb : xs.getD k 0 < 4294967296 := HV.out.bd _ (by rw [List.getD_eq_getElem?_getD, List.getElem?_eq_getElem (by omega)]; simp)
      have HKY := hidden (key32 _ hxb)
      have hhas := mapTo_has xs (xs.getD k 0) k (by omega)
      have hg : xs.take (k + 1) = xs.take k ++ [xs.getD k 0] := by
        rw [List.take_succ_eq_append_getElem (by omega)]
        simp [List.getD_eq_getElem?_getD, show k < xs.length by omega]
      have HSTEP : Hid (mapTo xs (k + 1) = (mapTo xs k).put (.int .u32 ((xs.getD k 0 : Nat) : Int)) (.lit (.int .i64 (k : Int)))) := rfl
      by_cases hin : xs.getD k 0 ∈ xs.take k
      · have hE6 : E = 6 := by
          rw [HE.out]
          unfold plE
          rw [if_neg (by omega), if_neg]
          intro hnd
          have h2 : (xs.take (k + 1)).Nodup := hnd.sublist (List.take_sublist _ _)
          rw [hg] at h2
          exact (List.nodup_append.1 h2).2.2 _ hin _ (by simp) rfl
        subst hE6
        have hh : Maps.has (mapTo xs k) (.int .u32 ((xs.getD k 0 : Nat) : Int)) = true := by rw [hhas, decide_eq_true hin]
        clear hhas hg hc
        generalize xs.getD k 0 = X at *
        go_wp2_with (first | (at_lookup; refine wpList_lookup_own_ok_int _ rfl _ _ 49 rfl 22 3 .i64 law32 Try.underlying49 Try.underlying3 (zeroI _) w.heap.size k _ rfl HO.out _ _ rfl HKY.out ?_; intro c hat hwc; rw [hh]; clear hat hwc))
        go_ret2
        exact ⟨HB.out, .inl ⟨by decide, rfl⟩⟩
      · have hh : Maps.has (mapTo xs k) (.int .u32 ((xs.getD k 0 : Nat) : Int)) = false := by rw [hhas, decide_eq_false hin]
        have HND2 : Hid ((xs.take (k + 1)).Nodup) := by
          show List.Nodup _
          rw [hg]
          exact List.nodup_append.2 ⟨HND.out, by simp, fun x hx y hy => by simp only [List.mem_singleton] at hy; subst hy; intro e; exact hin (e ▸ hx)⟩
        clear hhas hg hc
        generalize xs.getD k 0 = X at *
        go_wp2_with (first | (at_lookup; refine wpList_lookup_own_ok_int _ rfl _ _ 49 rfl 22 3 .i64 law32 Try.underlying49 Try.underlying3 (zeroI _) w.heap.size k _ rfl HO.out _ _ rfl HKY.out ?_; intro c hat hwc; rw [hh]; clear hat hwc) | (at_mapUpdate; refine wpList_mapUpdate_own _ rfl _ _ _ 49 rfl 22 3 law32 Try.underlying49 _ w.heap.size k _ rfl HO.out (by unfold maxLen; omega) _ _ _ rfl rfl HKY.out _ [] (plainElem_int Try.underlying3 (WalkArith.wf_i64 (by omega))) ?_; intro w1 hown1 hgrow1; have HO1 := hidden hown1; have HB1 := hidden (HB.out.grown hgrow1 HB.out.size (fun j hj => by cases hj; exact Nat.le_refl _)); clear hown1 hgrow1))
        go_roundw
        case rel => exact ⟨k + 1, by omega, by go_num, HND2, by rw [HSTEP.out]; exact HO1, HB1⟩
        case measure => simp [intOf]; omega
    · obtain rfl : k = n := by omega
      have d2 : ¬ (k : Int) < (k : Int) := by omega
      have hE0 : E = 0 := by
        rw [HE.out]
        unfold plE
        rw [if_neg (by omega), if_pos]
        have := HND.out
        rwa [← hln, List.take_length] at this
      subst hE0
      go_wp2
      go_ret2
      exact ⟨HB.out, .inr ⟨rfl, _, rfl, Nat.le_refl _, HO.out⟩⟩
end Go.Proofs.Ytbifolpahmeaeaa
