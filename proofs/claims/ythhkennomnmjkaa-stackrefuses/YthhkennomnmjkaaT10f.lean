/- The document's stack: contract of its Enter. -/
import Derived.Test.YthhkennomnmjkaaT10e
namespace Go.Proofs.Ythhkennomnmjkaa
open Go.RowKit
set_option maxHeartbeats 1000000
set_option maxRecDepth 100000
set_option linter.unusedVariables false

/-- what a call leaves: the document's stack is at s' -/
def LeftD (B : Nat) (w w' : World) (m : Nat) (v : Value) (s' : Ks) : Prop := ∃ v', DAt B w' m v' s' ∧ Fm w w' (TK m v) (TK m v')
theorem LeftD.same {B : Nat} {w w' : World} {m : Nat} {v : Value} {s : Ks} (h : DAt B w m v s) (hb : Below w.heap.size w w') : LeftD B w w' m v s := ⟨v, h.later hb, Fm.same hb⟩
theorem DC.isSome {w : World} {m : Nat} {a : Option Addr} {c : Nat} {s : Ks} {B : Nat} {n : Nat} (h : DAt B w m (.slice a n c) s) (h0 : 0 < s.bs.length) : ∃ g, a = some ⟨g, 0, none⟩ := by
  rcases h.row.2 with ⟨_, h2⟩ | ⟨g, cap, cur, h1, _⟩
  · omega
  · simp only [Value.slice.injEq] at h1
    exact ⟨g, h1.1⟩
theorem vals_last {s : Ks} (ok : OkK s) (hon : s.on = true) (h4 : 0 < cnt s) : (valsK s).getD (cnt s - 1) 0 = nu s.bs (s.bs.length - 4) := by
  have hb := ok.bd hon
  have : (valsK s).getD (cnt s - 1) 0 = nu s.bs (endK s + 4 * (cnt s - 1)) := by
    unfold valsK
    simp [List.getD_eq_getElem?_getD, show cnt s - 1 < cnt s by omega]
  rw [this]
  congr 1
  omega
/-- a cell of a row of words -/
theorem cell32 {w : World} {B g n c : Nat} {xs : List Nat} (h : w.ownsRow B 23 1 (.slice (some ⟨g, 0, none⟩) n c) n (u32V xs)) (i : Nat) (hi : i < n) : w.cell? ⟨g, i, none⟩ = some (.int .u32 (xs.getD i 0 : Nat)) := by
  have hl : (u32V xs).length = n * 1 := h.1
  have hl2 : xs.length = n := by simpa [u32V] using hl
  rw [h.cellAt i (by omega)]
  simp [u32V, List.getD_eq_getElem?_getD, show i < xs.length by omega]
theorem row32 {w : World} {B n c : Nat} {a : Option Addr} {xs : List Nat} (h : w.ownsRow B 23 1 (.slice a n c) n (u32V xs)) (h0 : 0 < n) : ∃ g, a = some ⟨g, 0, none⟩ ∧ n ≤ c ∧ B ≤ g := by
  rcases h.2 with ⟨_, h2⟩ | ⟨g, cap, cur, h1, h2, _, h3, _⟩
  · omega
  · simp only [Value.slice.injEq] at h1
    obtain ⟨rfl, _, rfl⟩ := h1
    exact ⟨g, rfl, h3, h2⟩
theorem dEnter_bad (B m : Nat) (v : Value) (s : Ks) (fa : Option Addr) (n fc : Nat) (zs : List Int) (w : World) (h : DAt B w m v s) (hr : Reads w fa n fc zs) (hz : OkB zs) (hn : n ≤ 100000) (h0 : (locR zs).2.2 ≠ 0) :
    Calls Try.prog 23 #[.pointer (some ⟨m, 0, none⟩), .slice fa n fc] w fun e w' => e = .returned (.int .i64 102) ∧ LeftD B w w' m v s := by
  have HL := hidden (dloc_any fa n fc zs w hr hz hn)
  have h1 : (locR zs).2.2 = 102 := (loc_bd zs).resolve_left h0
  rw [h1] at HL
  have HK := hidden h
  generalize (locR zs).1 = P at *
  generalize (locR zs).2.1 = S at *
  clear h hr hz h0 h1
  go_enter Try.func23, Try.ntmps23
  go_wp2_with (first | (go_at_call 56; refine HL.out.mono ?_; rintro e w1 ⟨rfl, hb⟩))
  go_ret
  exact ⟨rfl, LeftD.same HK.out hb⟩
/-- is a stub of the current frame on top? -/
theorem stubE_on {s : Ks} (hon : s.on = true) : stubE s = 0 ↔ (4 ≤ cnt s ∧ nu s.bs (s.bs.length - 4) = s.fr) := by
  unfold stubE
  rw [hon, if_pos rfl]
  split
  · omega
  · split
    · simp_all
    · simp_all
theorem dEnter_stub (B m : Nat) (v : Value) (s : Ks) (fa : Option Addr) (n fc : Nat) (zs : List Int) (w : World) (h : DAt B w m v s) (ok : OkK s) (hr : Reads w fa n fc zs) (hz : OkB zs) (hn : n ≤ 100000) (h0 : (locR zs).2.2 = 0) (hon : s.on = true) (hs : stubE s ≠ 0) :
    Calls Try.prog 23 #[.pointer (some ⟨m, 0, none⟩), .slice fa n fc] w fun e w' => e = .returned (.int .i64 102) ∧ LeftD B w w' m v s := by
  have HL := hidden (dloc_any fa n fc zs w hr hz hn)
  rw [h0] at HL
  obtain ⟨a, c, rfl, dc⟩ := h.dc
  have HV : Hid (∀ w1, Below w.heap.size w w1 → Calls Try.prog 57 #[.pointer (some ⟨m, 0, none⟩)] w1 fun e w' => ∃ a' c', e = .returned (.slice a' (cnt s) c') ∧ (w'.cell? ⟨m, 2, none⟩ = some (.int .i64 s.fr) ∧ w'.cell? ⟨m, 3, none⟩ = some (.bool true)) ∧ (0 < cnt s → ∃ g, a' = some ⟨g, 0, none⟩ ∧ cnt s ≤ c' ∧ w'.cell? ⟨g, cnt s - 1, none⟩ = some (.int .u32 (nu s.bs (s.bs.length - 4)))) ∧ Below w.heap.size w w') := fun w1 hb => (dvals_on m a c s w1 (dc.later hb) ok hon).mono (fun e w' hh => by
    obtain ⟨a', c', he, ho, hb2⟩ := hh
    have hbb := hb.trans (hb2.mono hb.size)
    refine ⟨a', c', he, ⟨(dc.later hbb).c2, by have := (dc.later hbb).c3; rwa [hon] at this⟩, fun hp => ?_, hbb⟩
    obtain ⟨g, rfl, hc, _⟩ := row32 ho hp
    refine ⟨g, rfl, hc, ?_⟩
    rw [cell32 ho (cnt s - 1) (by omega), vals_last ok hon hp])
  have HK := hidden h
  have hse := fun e => hs ((stubE_on hon).2 e)
  have hlt := nu_lt ok.okb (s.bs.length - 4)
  have hbd := ok.bd hon
  have hcb : cnt s ≤ 65536 := by have := ok.sz; have := ok.most; omega
  generalize (locR zs).1 = P at *
  generalize (locR zs).2.1 = S at *
  clear h ok hr hz h0 dc hon hs hbd
  generalize nu s.bs (s.bs.length - 4) = X at *
  generalize cnt s = C at *
  generalize s.fr = f at *
  have hw : IntKind.i64.wrap (X : Int) = (X : Int) := by rw [IntKind.wrap_i64]; omega
  by_cases h4 : C < 4
  · have d : (C : Int) < 4 := by omega
    clear hse hlt
    go_enter Try.func23, Try.ntmps23
    go_wp2_with (first | (go_at_call 56; refine HL.out.mono ?_; rintro e w1 ⟨rfl, hb⟩) | (go_at_call 57; refine (HV.out _ hb).mono ?_; rintro e w2 ⟨a', c', rfl, ⟨k2, k3⟩, hv, hb2⟩; have HV2 := hidden hv; clear hv))
    go_quiet (fail)
    all_goals (try go_wp2)
    go_ret
    exact ⟨rfl, LeftD.same HK.out (hb2.trans ((Dr.below ⟨_, rfl⟩).mono hb2.size))⟩
  · have d : ¬ (C : Int) < 4 := by omega
    have hXf : X ≠ f := fun e => hse ⟨by omega, e⟩
    have q3 : ((X : Int) == (f : Int)) = false := by simp; omega
    have q4 : ¬ (X : Int) = (f : Int) := by omega
    have hwc : IntKind.i64.wrap ((C : Int) - 1) = (C : Int) - 1 := by rw [IntKind.wrap_i64]; omega
    have tc : ((C : Int) - 1).toNat = C - 1 := by omega
    have hc1 : (0 : Int) ≤ (C : Int) - 1 := by omega
    have hc2 : (C : Int) - 1 < (C : Int) := by omega
    have dd : decide ((C : Int) < 4) = false := by simp; omega
    clear hse hlt
    go_enter Try.func23, Try.ntmps23
    go_wp2_with (first | (go_at_call 56; refine HL.out.mono ?_; rintro e w1 ⟨rfl, hb⟩) | (go_at_call 57; refine (HV.out _ hb).mono ?_; rintro e w2 ⟨a', c', rfl, ⟨k2, k3⟩, hv, hb2⟩; obtain ⟨g, rfl, hcc, kc⟩ := hv (by omega); clear hv; have kc' : w2.cell? ⟨g, ((C : Int) - 1).toNat, none⟩ = some (.int .u32 X) := by rw [tc]; exact kc))
    go_quiet (fail)
    all_goals (try go_wp2)
    go_ret
    exact ⟨rfl, LeftD.same HK.out (hb2.trans ((Dr.below ⟨_, rfl⟩).mono hb2.size))⟩
end Go.Proofs.Ythhkennomnmjkaa
