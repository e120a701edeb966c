/- Layer 15, the program: Get. -/
import Derived.Test.YtmohnopegacahaaS15y
namespace Go.Proofs.Ytmohnopegacahaa
open Go.RowKit
set_option maxHeartbeats 1000000
set_option maxRecDepth 100000
set_option linter.unusedVariables false

theorem look_some {B m : Nat} {w : World} {s : Sh} (h : ShAt B w m s) (nm : ByteArray) (hn : nm.size ≤ 32) {f : Fl} (hf : findF s.F nm.data.toList = some f) : ∃ mb, s.fm = some mb ∧ (Instr.lookup 67 (.map (some mb)) (.string nm) false).run Try.prog w = .ok (.pointer (some ⟨f.b, 0, none⟩)) w := by
  have hkey := WideMaps.keyOf_string_mk (s := nm) Try.underlying9 (show nm.size ≤ maxLen by unfold maxLen; omega)
  have hm := h.mp
  cases hfm : s.fm with
  | none =>
    rw [hfm] at hm
    have : s.F = [] := hm
    rw [this] at hf
    cases hf
  | some mb =>
    rw [hfm] at hm
    obtain ⟨_, n, D, _, hown, tie⟩ := hm
    obtain ⟨v, ps, hrun, hv⟩ := hown.lookup keyS Try.underlying67 (zeroF w) (zd := .nil) (zp := []) rfl hkey
    rw [tie.at_, hf] at hv
    obtain ⟨c, rfl⟩ := el_inv hv
    have := el_ptr c hv
    refine ⟨mb, rfl, ?_⟩
    cases c with
    | none => cases this
    | some b =>
      simp only [encF] at this
      injection this with this
      injection this with _ this
      have e : b = f.b := by omega
      subst e
      exact hrun
theorem get_some {B m : Nat} {w : World} {s : Sh} (h : ShAt B w m s) (nm : ByteArray) (hn : nm.size ≤ 32) {f : Fl} (hf : findF s.F nm.data.toList = some f) (hz : f.zs.length ≤ 2000000) :
    Calls Try.prog 20 #[.pointer (some ⟨m, 0, none⟩), .string nm] w fun e w' => ∃ a' c', e = .returned (.tuple #[.slice a' f.zs.length c', .bool true]) ∧ Hid (w'.ownsRow w.heap.size 5 1 (.slice a' f.zs.length c') f.zs.length (bytesV f.zs) ∧ Below w.heap.size w w') := by
  obtain ⟨d0, d1, d2, d3, d5⟩ := h.cells
  obtain ⟨mb, hmb, hlk⟩ := look_some h nm hn hf
  rw [hmb] at d1
  have hfm : f ∈ s.F := List.mem_of_find?_eq_some hf
  have hfa := h.fs f hfm
  obtain ⟨a, c, hv⟩ := own_slice hfa.row
  obtain ⟨c0, _⟩ := hfa.cell
  rw [hv] at c0
  have hrow := hfa.row
  rw [hv] at hrow
  have HCL := hidden (bclone_any a f.zs.length c f.zs w (own_read8 (v := .slice a f.zs.length c) hrow) hz)
  clear h hf hfa hrow hv hfm hmb
  generalize f.b = FB at *
  go_enter Try.func20, Try.ntmps20
  go_wp2_with (first | (go_at_call 41; refine HCL.out.mono ?_; rintro e w2 ⟨a', c', rfl, h1, h2⟩; have H2 := hidden (And.intro h1 h2); clear h1 h2) | fail)
  go_ret2
  exact ⟨_, _, rfl, H2⟩
end Go.Proofs.Ytmohnopegacahaa
