/- Layer 15, the program: may a file be opened? -/
import Derived.Test.YtmohnopegacahaaW15a
namespace Go.Proofs.Ytmohnopegacahaa
open Go.RowKit
set_option maxHeartbeats 1000000
set_option maxRecDepth 100000
set_option linter.unusedVariables false

def nmB (nm : ByteArray) : Bool := decide (1 ≤ nm.size ∧ nm.size ≤ 32)
theorem isName_all (nm : ByteArray) (w : World) : Calls Try.prog 49 #[.string nm] w fun e w' => e = .returned (.bool (nmB nm)) ∧ w' = w := by
  by_cases h1 : 1 ≤ nm.size
  · by_cases h2 : nm.size ≤ 32
    · have := isName_any nm w ⟨h1, h2⟩
      rw [show nmB nm = true by simp [nmB, h1, h2]]
      exact this
    · rw [show nmB nm = false by simp [nmB, h2]]
      have q1 : (1 : Int) ≤ (nm.size : Int) := by omega
      have q2 : ¬ (nm.size : Int) ≤ 32 := by omega
      clear h1 h2
      go_enter Try.func49, Try.ntmps49
      go_wp2
      go_ret
      exact ⟨rfl, rfl⟩
  · rw [show nmB nm = false by simp [nmB, h1]]
    have q1 : ¬ (1 : Int) ≤ (nm.size : Int) := by omega
    clear h1
    go_enter Try.func49, Try.ntmps49
    go_wp2
    go_ret
    exact ⟨rfl, rfl⟩
/-- the block of the file of that name -/
def lookB (s : Sh) (nm : ByteArray) : Option Nat := (findF s.F nm.data.toList).map (·.b)
theorem look_any {B m : Nat} {w : World} {s : Sh} (h : ShAt B w m s) (nm : ByteArray) (hn : nm.size ≤ maxLen) : (Instr.lookup 67 (.map s.fm) (.string nm) false).run Try.prog w = .ok (ptrF (lookB s nm)) w := by
  have hkey := WideMaps.keyOf_string_mk (s := nm) Try.underlying9 hn
  have hm := h.mp
  unfold lookB
  cases hfm : s.fm with
  | none =>
    rw [hfm] at hm
    have hF : s.F = [] := hm
    rw [hF]
    exact Maps.look_nil (P := Try.prog) (w := w) false keyS Try.underlying67 (zeroF w) hkey
  | some mb =>
    rw [hfm] at hm
    obtain ⟨_, n, D, _, hown, tie⟩ := hm
    obtain ⟨v, ps, hrun, hv⟩ := hown.lookup keyS Try.underlying67 (zeroF w) (zd := .nil) (zp := []) rfl hkey
    rw [tie.at_] at hv
    obtain ⟨c, rfl⟩ := el_inv hv
    rw [hrun]
    cases hf : findF s.F nm.data.toList with
    | none =>
      rw [hf] at hv
      have := el_ptr c hv
      cases c with
      | none => rfl
      | some b => cases this
    | some f =>
      rw [hf] at hv
      have := el_ptr c hv
      cases c with
      | none => cases this
      | some b =>
        simp only [encF] at this
        injection this with this
        injection this with _ this
        have e : b = f.b := by omega
        subst e
        rfl
theorem len_files {B m : Nat} {w : World} {s : Sh} (h : ShAt B w m s) (ty : TypeId) : (Builtin.len_ #[67] ty #[.map s.fm]).run Try.prog w = .ok (.int .i64 (s.F.length : Nat)) w := by
  have hm := h.mp
  cases hfm : s.fm with
  | none =>
    rw [hfm] at hm
    have hF : s.F = [] := hm
    rw [hF]
    exact Maps.len_nil (P := Try.prog) (w := w) Try.underlying67 ty
  | some mb =>
    rw [hfm] at hm
    obtain ⟨_, n, D, _, hown, tie⟩ := hm
    have := hown.len Try.underlying67 ty
    rw [tie.size] at this
    exact this
theorem taken_none (s : Sh) (md : Int) : takenB s none md = false := by
  unfold takenB
  rw [List.any_eq_false]
  intro d _
  simp [tkB, lieB]
theorem look_in {s : Sh} {nm : ByteArray} {b : Nat} (h : lookB s nm = some b) : ∃ f ∈ s.F, f.b = b ∧ findF s.F nm.data.toList = some f := by
  unfold lookB at h
  cases hf : findF s.F nm.data.toList with
  | none => rw [hf] at h; cases h
  | some f =>
    rw [hf] at h
    injection h with h
    exact ⟨f, List.mem_of_find?_eq_some hf, h, rfl⟩
/-- why no stream of that mode can be opened on that file -/
def mayOpenE (s : Sh) (nm : ByteArray) (md : Int) : Int :=
  if nmB nm = false then 1 else if mdB md = false then 1 else if 64 ≤ s.S.length then 4
  else if lookB s nm = none then (if md = 2 then 5 else if 64 ≤ s.F.length then 4 else 0)
  else if takenB s (lookB s nm) md = true then 6 else 0
set_option maxHeartbeats 4000000 in
theorem mayOpen_any {B m : Nat} {w : World} {s : Sh} (h : ShAt B w m s) (ok : OkS s) (nm : ByteArray) (hn : nm.size ≤ maxLen) (md : Int) :
    Calls Try.prog 27 #[.pointer (some ⟨m, 0, none⟩), .string nm, .int .i64 md] w fun e w' => e = .returned (.int .i64 (mayOpenE s nm md)) ∧ Below w.heap.size w w' := by
  obtain ⟨d0, d1, d2, d3, d5⟩ := h.cells
  obtain ⟨sa, sc, hsv⟩ := own_slice h.row
  rw [hsv] at d3
  have HN := hidden (isName_all nm w)
  have HM := hidden (isMode_any md w)
  have hlk := look_any h nm hn
  have hln := fun ty => len_files h ty
  have HT := hidden (taken_any h ok (lookB s nm) (fun b e => by
    obtain ⟨f, hf, e2, _⟩ := look_in e
    rw [← e2]
    exact ⟨_, (h.fs f hf).box⟩) md)
  have HTN : Hid (lookB s nm = none → takenB s (lookB s nm) md = false) := hidden (fun e => by rw [e]; exact taken_none s md)
  have hfew := ok.few
  unfold mayOpenE
  clear h ok hn hsv
  generalize s.S.length = NS at *
  generalize s.F.length = NF at *
  generalize s.fm = FM at *
  generalize takenB s (lookB s nm) md = TK at *
  generalize lookB s nm = LB at *
  generalize nmB nm = NB at *
  generalize mdB md = MB at *
  cases NB with
  | false =>
    rw [if_pos rfl]
    clear HTN HT
    go_enter Try.func27, Try.ntmps27
    go_wp2_with (first | (go_at_call 49; refine HN.out.mono ?_; rintro e w1 ⟨rfl, e1⟩; rw [e1]; clear e1) | (go_at_call 44; refine HM.out.mono ?_; rintro e w1 ⟨rfl, e1⟩; rw [e1]; clear e1) | (go_at_call 42; refine HT.out.mono ?_; rintro e w1 ⟨rfl, hb1⟩; have HB1 := hidden hb1; clear hb1) | fail)
    go_ret
    exact ⟨rfl, Below.refl _ _⟩
  | true =>
  cases MB with
  | false =>
    rw [if_neg (by decide), if_pos rfl]
    clear HTN HT
    go_enter Try.func27, Try.ntmps27
    go_wp2_with (first | (go_at_call 49; refine HN.out.mono ?_; rintro e w1 ⟨rfl, e1⟩; rw [e1]; clear e1) | (go_at_call 44; refine HM.out.mono ?_; rintro e w1 ⟨rfl, e1⟩; rw [e1]; clear e1) | (go_at_call 42; refine HT.out.mono ?_; rintro e w1 ⟨rfl, hb1⟩; have HB1 := hidden hb1; clear hb1) | fail)
    go_ret
    exact ⟨rfl, Below.refl _ _⟩
  | true =>
  rw [if_neg (by decide), if_neg (by decide)]
  by_cases h64 : 64 ≤ NS
  · rw [if_pos h64]
    have q1 : (NS : Int) ≥ 64 := by omega
    clear HTN HT h64
    go_enter Try.func27, Try.ntmps27
    go_wp2_with (first | (go_at_call 49; refine HN.out.mono ?_; rintro e w1 ⟨rfl, e1⟩; rw [e1]; clear e1) | (go_at_call 44; refine HM.out.mono ?_; rintro e w1 ⟨rfl, e1⟩; rw [e1]; clear e1) | (go_at_call 42; refine HT.out.mono ?_; rintro e w1 ⟨rfl, hb1⟩; have HB1 := hidden hb1; clear hb1) | fail)
    go_ret
    exact ⟨rfl, Below.refl _ _⟩
  · rw [if_neg h64]
    have q1 : ¬ (NS : Int) ≥ 64 := by omega
    clear h64
    cases LB with
    | none =>
      rw [if_pos rfl]
      obtain rfl : TK = false := HTN.out rfl
      rw [show ptrF none = .pointer none from rfl] at *
      by_cases h2 : md = 2
      · subst h2
        rw [if_pos rfl]
        clear HTN HT
        go_enter Try.func27, Try.ntmps27
        go_wp2_with (first | (go_at_call 49; refine HN.out.mono ?_; rintro e w1 ⟨rfl, e1⟩; rw [e1]; clear e1) | (go_at_call 44; refine HM.out.mono ?_; rintro e w1 ⟨rfl, e1⟩; rw [e1]; clear e1) | (go_at_call 42; refine HT.out.mono ?_; rintro e w1 ⟨rfl, hb1⟩; have HB1 := hidden hb1; clear hb1) | fail)
        go_ret
        exact ⟨rfl, Below.refl _ _⟩
      · rw [if_neg h2]
        have q2 : (md == 2) = false := by simp [h2]
        clear h2
        by_cases hf : 64 ≤ NF
        · rw [if_pos hf]
          have q3 : (NF : Int) ≥ 64 := by omega
          clear HTN HT hf
          go_enter Try.func27, Try.ntmps27
          go_wp2_with (first | (go_at_call 49; refine HN.out.mono ?_; rintro e w1 ⟨rfl, e1⟩; rw [e1]; clear e1) | (go_at_call 44; refine HM.out.mono ?_; rintro e w1 ⟨rfl, e1⟩; rw [e1]; clear e1) | (go_at_call 42; refine HT.out.mono ?_; rintro e w1 ⟨rfl, hb1⟩; have HB1 := hidden hb1; clear hb1) | fail)
          go_ret
          exact ⟨rfl, Below.refl _ _⟩
        · rw [if_neg hf]
          have q3 : ¬ (NF : Int) ≥ 64 := by omega
          clear HTN hf
          go_enter Try.func27, Try.ntmps27
          go_wp2_with (first | (go_at_call 49; refine HN.out.mono ?_; rintro e w1 ⟨rfl, e1⟩; rw [e1]; clear e1) | (go_at_call 44; refine HM.out.mono ?_; rintro e w1 ⟨rfl, e1⟩; rw [e1]; clear e1) | (go_at_call 42; refine HT.out.mono ?_; rintro e w1 ⟨rfl, hb1⟩; have HB1 := hidden hb1; clear hb1) | fail)
          go_ret
          exact ⟨rfl, HB1.out⟩
    | some b =>
      rw [if_neg (by simp)]
      rw [show ptrF (some b) = .pointer (some ⟨b, 0, none⟩) from rfl] at *
      clear HTN
      cases TK with
      | false =>
        rw [if_neg (by decide)]
        go_enter Try.func27, Try.ntmps27
        go_wp2_with (first | (go_at_call 49; refine HN.out.mono ?_; rintro e w1 ⟨rfl, e1⟩; rw [e1]; clear e1) | (go_at_call 44; refine HM.out.mono ?_; rintro e w1 ⟨rfl, e1⟩; rw [e1]; clear e1) | (go_at_call 42; refine HT.out.mono ?_; rintro e w1 ⟨rfl, hb1⟩; have HB1 := hidden hb1; clear hb1) | fail)
        go_ret
        exact ⟨rfl, HB1.out⟩
      | true =>
        rw [if_pos rfl]
        go_enter Try.func27, Try.ntmps27
        go_wp2_with (first | (go_at_call 49; refine HN.out.mono ?_; rintro e w1 ⟨rfl, e1⟩; rw [e1]; clear e1) | (go_at_call 44; refine HM.out.mono ?_; rintro e w1 ⟨rfl, e1⟩; rw [e1]; clear e1) | (go_at_call 42; refine HT.out.mono ?_; rintro e w1 ⟨rfl, hb1⟩; have HB1 := hidden hb1; clear hb1) | fail)
        go_ret
        exact ⟨rfl, HB1.out⟩
end Go.Proofs.Ytmohnopegacahaa
