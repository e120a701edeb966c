/- Both stacks looked at: Frame, Top, Bytes, Count, Values, Same, wherever new blocks lie. -/
import Derived.Test.YthhkennomnmjkaaM10F
import Derived.Deep.Cut
namespace Go.Proofs.Ythhkennomnmjkaa
open Go.RowKit
set_option maxHeartbeats 1000000
set_option maxRecDepth 100000
set_option linter.unusedVariables false

theorem fr_bd {s : Ks} (ok : OkK s) : s.bs.length ≤ 65536 ∧ s.fr < 4294967296 := by
  have hl : s.bs.length ≤ 65536 := by have := ok.sz; have := ok.most; omega
  refine ⟨hl, ?_⟩
  cases ho : s.on with
  | true => have := (ok.bd ho).1; omega
  | false => have := (ok.non ho).1; omega
theorem count_vals (s : Ks) : (valsL s).length = countV s := by
  unfold valsL countV lackE
  cases s.on <;> simp [valsK_len]
structure Look (B m d : Nat) (s : Ks) (w : World) (ua : Option Addr) (uc : Nat) : Prop where
  fr : ∀ wx, Below w.heap.size w wx → Calls Try.prog 8 #[.pointer (some ⟨m, 0, none⟩)] wx fun e w' => e = .returned (.tuple #[.int .u32 s.fr, .bool s.on]) ∧ w' = wx
  top : ∀ wx, Below w.heap.size w wx → Calls Try.prog 10 #[.pointer (some ⟨m, 0, none⟩)] wx fun e w' => e = .returned (.int .u32 s.bs.length) ∧ Below w.heap.size w w'
  bytes : ∀ wx, Below w.heap.size w wx → Calls Try.prog 7 #[.pointer (some ⟨m, 0, none⟩)] wx fun e w' => ∃ a' c', e = .returned (.slice a' s.bs.length c') ∧ Hid (Reads w' a' s.bs.length c' s.bs) ∧ Below w.heap.size w w'
  same : ∀ wx a' c', Below w.heap.size w wx → Reads wx a' s.bs.length c' s.bs → Calls Try.prog 11 #[.slice a' s.bs.length c', .slice ua s.bs.length uc] wx fun e w' => e = .returned (.bool true) ∧ Below w.heap.size w w'
  cells : ∀ wx, Below w.heap.size w wx → wx.cell? ⟨d, 0, none⟩ = some (.slice ua s.bs.length uc) ∧ wx.cell? ⟨d, 2, none⟩ = some (.int .i64 s.fr) ∧ wx.cell? ⟨d, 3, none⟩ = some (.bool s.on)
theorem look_any {B m d : Nat} {s : Ks} {w0 w : World} {gs : List Nat} (T : Two B m d w0 w s s gs) (ok : OkK s) : ∃ ua uc, Look B m d s w ua uc := by
  obtain ⟨v, u, h1, h2, _, _, _, _⟩ := T
  obtain ⟨a, c, rfl, kc⟩ := h1.kc'
  obtain ⟨ua, uc, rfl, dc⟩ := h2.dc
  have hl := (fr_bd ok).1
  refine ⟨ua, uc, ⟨fun wx hb => kFrame_any m a c s wx (kc.later hb) ok, fun wx hb => ?_, fun wx hb => ?_, fun wx a' c' hb hr => ?_, fun wx hb => ⟨cellLater hb dc.c0, cellLater hb dc.c2, cellLater hb dc.c3⟩⟩⟩
  · refine (kTop_any m a c s wx (kc.later hb) (by omega)).mono ?_
    rintro e w' ⟨rfl, rfl⟩
    exact ⟨rfl, hb⟩
  · refine (kBytes_any B m _ s wx (h1.later hb) (by omega)).mono ?_
    rintro e w' ⟨a', c', rfl, ho, hb'⟩
    exact ⟨a', c', rfl, own_read8 (v := .slice a' s.bs.length c') ho, hb.trans (hb'.mono hb.size)⟩
  · refine (same_eq a' ua s.bs.length c' s.bs.length uc s.bs wx ok.okb hr (dc.rd.later hb)).mono ?_
    rintro e w' ⟨rfl, rfl⟩
    exact ⟨rfl, hb⟩
theorem look_count {B m d : Nat} {s : Ks} {w0 w : World} {gs : List Nat} (T : Two B m d w0 w s s gs) (ok : OkK s) (wx : World) (hb : Below w.heap.size w wx) :
    Calls Try.prog 21 #[.pointer (some ⟨m, 0, none⟩)] wx fun e w' => e = .returned (.int .i64 (countV s)) ∧ Below w.heap.size w w' := by
  obtain ⟨v, u, h1, h2, _, _, _, _⟩ := T
  obtain ⟨a, c, rfl, kc⟩ := h1.kc'
  refine (kCount_any m a c s wx (kc.later hb) ok).mono ?_
  rintro e w' ⟨rfl, hd⟩
  exact ⟨rfl, hb.trans (hd.below.mono hb.size)⟩
theorem look_vals {B m d : Nat} {s : Ks} {w0 w : World} {gs : List Nat} (T : Two B m d w0 w s s gs) (ok : OkK s) (wx : World) (hb : Below w.heap.size w wx) :
    Calls Try.prog 57 #[.pointer (some ⟨d, 0, none⟩)] wx fun e w' => ∃ a' c', e = .returned (.slice a' (countV s) c') ∧ Below w.heap.size w w' := by
  obtain ⟨v, u, h1, h2, _, _, _, _⟩ := T
  obtain ⟨ua, uc, rfl, dc⟩ := h2.dc
  refine (dvals_any d ua uc s wx (dc.later hb) ok).mono ?_
  rintro e w' ⟨a', c', rfl, _, hb'⟩
  exact ⟨a', c', by rw [count_vals], hb.trans (hb'.mono hb.size)⟩
end Go.Proofs.Ythhkennomnmjkaa
