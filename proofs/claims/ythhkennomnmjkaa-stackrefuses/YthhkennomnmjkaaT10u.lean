/- The document's stack: its become. -/
import Derived.Test.YthhkennomnmjkaaT10t
namespace Go.Proofs.Ythhkennomnmjkaa
open Go.RowKit
set_option maxHeartbeats 8000000
set_option maxRecDepth 100000
set_option linter.unusedVariables false

/-- the current frame's values changed -/
theorem dbecome_any (B m ab ac : Nat) (v : Value) (s : Ks) (xs : List Nat) (aa : Option Addr) (w : World) (h : DAt B w m v s) (hB : B ≤ w.heap.size) (ok : OkK s) (hon : s.on = true) (hL : xs.length ≤ 65536) (hx : ∀ x ∈ xs, x < 4294967296)
    (hab : ab < w.heap.size) (hna : ¬ TK m v ab) (hc : ∀ i, i < xs.length → w.cell? ⟨ab, i, none⟩ = some (.int .u32 (xs.getD i 0 : Nat))) (hac : xs.length ≤ ac) (haa : 0 < xs.length → aa = some ⟨ab, 0, none⟩) :
    Calls Try.prog 59 #[.pointer (some ⟨m, 0, none⟩), .slice aa xs.length ac] w fun e w' => e = .returned (.tuple #[]) ∧ LeftD B w w' m v { s with bs := s.bs.take (endK s) ++ putsL xs } := by
  have hmo := ok.most
  have hsz := ok.sz
  obtain ⟨b1, b2, b3, b4, b5, b6⟩ := ok.bd hon
  obtain ⟨a, c, rfl, dc⟩ := h.dc
  obtain ⟨g, rfl⟩ := DC.isSome (w := w) (m := m) h (by omega)
  have HC := hidden (h.cut hB (endK s) b3)
  have hcc : s.bs.length ≤ c := (own_reads h.row).2.1
  have c0 := dc.c0
  have c2 := dc.c2
  have a0 : (w.alloc (.cells #[] 5)).cell? ⟨m, 0, none⟩ = some (.slice (some ⟨g, 0, none⟩) s.bs.length c) := cellLater ((Below.refl _ _).alloc (Nat.le_refl _) _) c0
  have a2 : (w.alloc (.cells #[] 5)).cell? ⟨m, 2, none⟩ = some (.int .i64 s.fr) := cellLater ((Below.refl _ _).alloc (Nat.le_refl _) _) c2
  have HA : Hid (∀ wx, Below w.heap.size w wx → Calls Try.prog 67 #[.pointer (some ⟨m, 0, none⟩), .int .i64 s.fr] wx fun e w' => e = .returned (.int .i64 (nu s.bs s.fr)) ∧ w' = wx) := fun wx hb => dat_any m s.fr _ _ c s.bs wx (dc.later hb).c0 (dc.later hb).rd ok.okb (by omega) (by omega)
  have HL : Hid (∀ (w6 : World) (v1 : Value), DAt B w6 m v1 { s with bs := s.bs.take (endK s) } → Fm w w6 (TK m (.slice (some ⟨g, 0, none⟩) s.bs.length c)) (TK m v1) → Calls Try.prog 58 #[.pointer (some ⟨m, 0, none⟩), .slice aa xs.length ac] w6 fun e w' => e = .returned (.tuple #[]) ∧ Hid (LeftD B w w' m (.slice (some ⟨g, 0, none⟩) s.bs.length c) { s with bs := s.bs.take (endK s) ++ putsL xs })) := fun w6 v1 hd f => by
    refine (dlay_any B m ab ac v1 _ xs w6 hd (Nat.le_trans hB f.size) (by simp [List.length_take]; omega) hx (fun i hi => by rw [World.cell?_of_block (f.block ab hab hna)]; exact hc i hi) hac aa haa).mono ?_
    rintro e w' ⟨rfl, v2, g1, g2⟩
    exact ⟨rfl, v2, g1, f.trans g2⟩
  have hE : endK s = s.fr + nu s.bs s.fr := rfl
  have hn := nu_lt ok.okb s.fr
  have hwE : IntKind.i64.wrap ((s.fr : Int) + (nu s.bs s.fr : Int)) = (endK s : Int) := by rw [IntKind.wrap_i64]; omega
  have hEc : endK s ≤ c := by omega
  have hEL : endK s ≤ 65536 := by omega
  clear dc h ok hc hna haa hx hE hn b1 b2 b3 b4 b5 b6
  generalize s.bs.length = L at *
  generalize nu s.bs s.fr = N at *
  generalize endK s = E at *
  go_enter Try.func59, Try.ntmps59
  go_wp2
  go_region_law (first | (refine step_copyOf (by rfl) _ _ (by rfl) w.heap.size _ E c (some ⟨g, 0, none⟩) _ (by rfl) (by rfl) (by first | exact made0 _ | exact own_later (made0 w) ((Below.refl _ _).drew)) (HC.out.rd _ (by first | exact ((Below.refl _ _).drew).alloc (Nat.le_refl _) _ | exact ((Below.refl _ _).alloc (Nat.le_refl _) _).drew)) (by omega) (by simp) ?_; intro g1 c1 w1 ho1 hb1; obtain ⟨⟨q0, qf⟩, p1, p2⟩ := HC.out.st _ _ _ (Below.trans (by first | exact ((Below.refl _ _).drew).alloc (Nat.le_refl _) _ | exact ((Below.refl _ _).alloc (Nat.le_refl _) _).drew) hb1) ho1; have G := hidden (And.intro p1 p2); clear p1 p2 ho1 hb1) | (go_simp; (with_reducible refine (HA.out _ (by first | exact ((Below.refl _ _).drew) | exact ((Below.refl _ _).drew).alloc (Nat.le_refl _) _ | exact ((Below.refl _ _).alloc (Nat.le_refl _) _).drew)).mono ?_); rintro e wA ⟨rfl, rfl⟩) | fail)
  all_goals (
    generalize hW : w1.setCell ⟨m, 0, none⟩ (.slice (some ⟨g1, 0, none⟩) E c1) = w6 at *
    clear hW
    go_wp2_with (first | (go_at_call 58; refine (HL.out _ _ G.out.1 G.out.2).mono ?_; rintro e w7 ⟨rfl, g7⟩))
    refine bodyPost_end (v := .tuple #[]) (by simp [results, Try.results59, go_sem]) rfl ⟨rfl, g7.out⟩)
end Go.Proofs.Ythhkennomnmjkaa
