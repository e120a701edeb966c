/- The document's stack: its Unstub, where there is no stub. The document's stack: its Unstub. The document's stack: its Unstub, whatever its stack. The document's stack: its Local. The document's stack: its Local, whatever is asked. The document's stack: the current frame's own format. Package stack's Local. Package stack's Dup. Package stack's Dup, where it doubles. -/
import Derived.Test.YthhkennomnmjkaaM10A
namespace Go.Proofs.Ythhkennomnmjkaa
open Go.RowKit
set_option maxHeartbeats 1000000
set_option maxRecDepth 100000
set_option linter.unusedVariables false

theorem dUn_few (m : Nat) (a : Option Addr) (c : Nat) (s : Ks) (w : World) (dc : DC w m a c s) (ok : OkK s) (hon : s.on = true) (hc : cnt s < 4) :
    Calls Try.prog 73 #[.pointer (some ⟨m, 0, none⟩)] w fun e w' => e = .returned (.tuple #[.int .u32 0, .int .u32 0, .int .u32 0, .int .i64 101]) ∧ Below w.heap.size w w' := by
  have HV := hidden (dvals_on m a c s w dc ok hon)
  have c3 := dc.c3
  rw [hon] at c3
  clear dc ok hon
  generalize valsK s = X at *
  generalize cnt s = C at *
  have d1 : (C : Int) < 4 := by omega
  go_enter Try.func73, Try.ntmps73
  go_wp2_with (first | (go_at_call 57; refine HV.out.mono ?_; rintro e w1 ⟨a', c', rfl, ho, hb⟩; clear ho))
  refine bodyPost_ret (v := .tuple #[.int .u32 0, .int .u32 0, .int .u32 0, .int .i64 101]) (by simp [results, Try.results73, go_sem]) rfl ⟨rfl, hb⟩
theorem dUn_none (m : Nat) (a : Option Addr) (c : Nat) (s : Ks) (w : World) (dc : DC w m a c s) (hon : s.on = false) (he : s.bs = []) :
    Calls Try.prog 73 #[.pointer (some ⟨m, 0, none⟩)] w fun e w' => e = .returned (.tuple #[.int .u32 0, .int .u32 0, .int .u32 0, .int .i64 5]) ∧ Below w.heap.size w w' := by
  have c0 := dc.c0
  have c3 := dc.c3
  rw [hon] at c3
  rw [he] at c0
  simp only [List.length_nil] at c0
  clear dc
  go_enter Try.func73, Try.ntmps73
  go_wp2
  refine bodyPost_ret (v := .tuple #[.int .u32 0, .int .u32 0, .int .u32 0, .int .i64 5]) (by simp [results, Try.results73, go_sem]) rfl ⟨rfl, Below.refl _ _⟩
theorem dUn_other (m : Nat) (a : Option Addr) (c : Nat) (s : Ks) (w : World) (dc : DC w m a c s) (ok : OkK s) (hon : s.on = true) (hc : 4 ≤ cnt s) (hne : nu s.bs (s.bs.length - 4) ≠ s.fr) :
    Calls Try.prog 73 #[.pointer (some ⟨m, 0, none⟩)] w fun e w' => e = .returned (.tuple #[.int .u32 0, .int .u32 0, .int .u32 0, .int .i64 102]) ∧ Below w.heap.size w w' := by
  obtain ⟨b1, b2, b3, b4, b5, b6⟩ := ok.bd hon
  have hsz := ok.sz
  have hmo := ok.most
  obtain ⟨P, hP⟩ : ∃ x, x = s.bs.length - 16 := ⟨_, rfl⟩
  obtain ⟨P12, hP12⟩ : ∃ x, x = s.bs.length - 4 := ⟨_, rfl⟩
  have HV : Hid (Calls Try.prog 57 #[.pointer (some ⟨m, 0, none⟩)] w fun e w' => ∃ a' c', e = .returned (.slice a' (cnt s) c') ∧ (w'.cell? ⟨m, 0, none⟩ = some (.slice a s.bs.length c) ∧ w'.cell? ⟨m, 2, none⟩ = some (.int .i64 s.fr) ∧ w'.cell? ⟨m, 3, none⟩ = some (.bool s.on)) ∧ Below w.heap.size w w') := by
    refine (dvals_on m a c s w dc ok hon).mono ?_
    rintro e w' ⟨a', c', rfl, ho, hb⟩
    exact ⟨a', c', rfl, ⟨(dc.later hb).c0, (dc.later hb).c2, (dc.later hb).c3⟩, hb⟩
  have HA : Hid (∀ wx, Below w.heap.size w wx → Calls Try.prog 67 #[.pointer (some ⟨m, 0, none⟩), .int .i64 P12] wx fun e w' => e = .returned (.int .i64 (nu s.bs P12)) ∧ w' = wx) := fun wx hb => dat_any m P12 a _ c s.bs wx (dc.later hb).c0 (dc.later hb).rd ok.okb (by omega) (by omega)
  rw [← hP12] at hne
  have c3 := dc.c3
  rw [hon] at c3 HV
  have hlt := nu_lt ok.okb P12
  clear dc ok hon
  have hw : IntKind.i64.wrap ((s.bs.length : Int) - 16) = (P : Int) := by rw [IntKind.wrap_i64]; omega
  have hw2 : IntKind.i64.wrap ((P : Int) + 12) = (P12 : Int) := by rw [IntKind.wrap_i64]; omega
  have hC : cnt s ≤ 65536 := by omega
  have hL0 : ¬ (s.bs.length : Int) = 0 := by omega
  clear b1 b2 b3 b4 b5 b6 hP hP12
  generalize nu s.bs P12 = F at *
  generalize s.fr = f at *
  generalize s.bs.length = L at *
  generalize cnt s = C at *
  have d1 : ¬ (C : Int) < 4 := by omega
  have d2 : ((F : Int) == (f : Int)) = false := by simp; omega
  have d3 : ¬ (F : Int) = (f : Int) := by omega
  go_enter Try.func73, Try.ntmps73
  go_wp2_with (first | (go_at_call 57; refine HV.out.mono ?_; rintro e w1 ⟨a', c', rfl, ⟨k0, k2, k3⟩, hb⟩))
  go_quiet (first | (go_at_call 67; exact Calls.quiet_of_same (HA.out _ (hb.trans ((Dr.below ⟨_, rfl⟩).mono hb.size)))))
  all_goals (try go_wp2)
  refine bodyPost_ret (v := .tuple #[.int .u32 0, .int .u32 0, .int .u32 0, .int .i64 102]) (by simp [results, Try.results73, go_sem]) rfl ⟨rfl, hb.trans ((Dr.below ⟨_, rfl⟩).mono hb.size)⟩
end Go.Proofs.Ythhkennomnmjkaa
namespace Go.Proofs.Ythhkennomnmjkaa
open Go.RowKit
set_option maxHeartbeats 1000000
set_option maxRecDepth 100000
set_option linter.unusedVariables false

theorem dUn_off (B m : Nat) (v : Value) (s : Ks) (w : World) (h : DAt B w m v s) (hB : B ≤ w.heap.size) (ok : OkK s) (hon : s.on = false) (h16 : 16 ≤ s.bs.length) :
    Calls Try.prog 73 #[.pointer (some ⟨m, 0, none⟩)] w fun e w' => e = .returned (.tuple #[.int .u32 (nu s.bs (s.bs.length - 16)), .int .u32 (nu s.bs (s.bs.length - 16 + 4)), .int .u32 (nu s.bs (s.bs.length - 16 + 8)), .int .i64 0]) ∧ LeftD B w w' m v ⟨s.size, s.bs.take (s.bs.length - 16), nu s.bs (s.bs.length - 4), true⟩ := by
  obtain ⟨a, c, rfl, dc⟩ := h.dc
  obtain ⟨g, rfl⟩ := DC.isSome (w := w) (m := m) h (by omega)
  have hcc : s.bs.length ≤ c := (own_reads h.row).2.1
  have hsz := ok.sz
  have hmo := ok.most
  obtain ⟨P, hP⟩ : ∃ x, x = s.bs.length - 16 := ⟨_, rfl⟩
  obtain ⟨P4, hP4⟩ : ∃ x, x = s.bs.length - 16 + 4 := ⟨_, rfl⟩
  obtain ⟨P8, hP8⟩ : ∃ x, x = s.bs.length - 16 + 8 := ⟨_, rfl⟩
  obtain ⟨P12, hP12⟩ : ∃ x, x = s.bs.length - 4 := ⟨_, rfl⟩
  have HAP : Hid (∀ wx, Below w.heap.size w wx → Calls Try.prog 67 #[.pointer (some ⟨m, 0, none⟩), .int .i64 P] wx fun e w' => e = .returned (.int .i64 (nu s.bs P)) ∧ w' = wx) := fun wx hb => dat_any m P _ _ c s.bs wx (dc.later hb).c0 (dc.later hb).rd ok.okb (by omega) (by omega)
  have hnP := nu_lt ok.okb P
  have HAP4 : Hid (∀ wx, Below w.heap.size w wx → Calls Try.prog 67 #[.pointer (some ⟨m, 0, none⟩), .int .i64 P4] wx fun e w' => e = .returned (.int .i64 (nu s.bs P4)) ∧ w' = wx) := fun wx hb => dat_any m P4 _ _ c s.bs wx (dc.later hb).c0 (dc.later hb).rd ok.okb (by omega) (by omega)
  have hnP4 := nu_lt ok.okb P4
  have HAP8 : Hid (∀ wx, Below w.heap.size w wx → Calls Try.prog 67 #[.pointer (some ⟨m, 0, none⟩), .int .i64 P8] wx fun e w' => e = .returned (.int .i64 (nu s.bs P8)) ∧ w' = wx) := fun wx hb => dat_any m P8 _ _ c s.bs wx (dc.later hb).c0 (dc.later hb).rd ok.okb (by omega) (by omega)
  have hnP8 := nu_lt ok.okb P8
  have HAP12 : Hid (∀ wx, Below w.heap.size w wx → Calls Try.prog 67 #[.pointer (some ⟨m, 0, none⟩), .int .i64 P12] wx fun e w' => e = .returned (.int .i64 (nu s.bs P12)) ∧ w' = wx) := fun wx hb => dat_any m P12 _ _ c s.bs wx (dc.later hb).c0 (dc.later hb).rd ok.okb (by omega) (by omega)
  have hnP12 := nu_lt ok.okb P12
  have HS : Hid (∀ wx, Below w.heap.size w wx → (wx.cell? ⟨m, 0, none⟩ = some (.slice (some ⟨g, 0, none⟩) s.bs.length c) ∧ wx.cell? ⟨m, 2, none⟩ = some (.int .i64 s.fr) ∧ wx.cell? ⟨m, 3, none⟩ = some (.bool s.on) ∧ wx.frozen? ⟨m, 0, none⟩ = false ∧ wx.frozen? ⟨m, 2, none⟩ = false ∧ wx.frozen? ⟨m, 3, none⟩ = false ∧ (((wx.setCell ⟨m, 2, none⟩ (.int .i64 (nu s.bs P12))).setCell ⟨m, 3, none⟩ (.bool true)).alloc (.cells #[] 5)).cell? ⟨m, 0, none⟩ = some (.slice (some ⟨g, 0, none⟩) s.bs.length c)) ∧ Cut B ((wx.setCell ⟨m, 2, none⟩ (.int .i64 (nu s.bs P12))).setCell ⟨m, 3, none⟩ (.bool true)) m g s.bs.length c P { s with fr := nu s.bs P12, on := true } ∧ Fm w ((wx.setCell ⟨m, 2, none⟩ (.int .i64 (nu s.bs P12))).setCell ⟨m, 3, none⟩ (.bool true)) (TK m (.slice (some ⟨g, 0, none⟩) s.bs.length c)) (TK m (.slice (some ⟨g, 0, none⟩) s.bs.length c))) := fun wx hb => by
    have h1 := h.later hb
    obtain ⟨k0, _, k2, k3, kf⟩ := h1.cells
    obtain ⟨p1, p2⟩ := h1.set2 (nu s.bs P12)
    obtain ⟨q1, q2⟩ := p1.set3 true
    have f3 := ((Fm.same (T := TK m (.slice (some ⟨g, 0, none⟩) s.bs.length c)) hb).trans p2).trans q2
    exact ⟨⟨k0, k2, k3, kf 0, kf 2, kf 3, cellLater ((Below.refl _ _).alloc (Nat.le_refl _) _) q1.cells.1⟩, DAt.cut (s := { s with fr := nu s.bs P12, on := true }) q1 (Nat.le_trans hB f3.size) P (by simp; omega), f3⟩
  rw [← hP4, ← hP8, ← hP12, ← hP]
  have c0 := dc.c0
  have c3 := dc.c3
  rw [hon] at c3
  clear h dc ok hon
  have hw0 : IntKind.i64.wrap ((s.bs.length : Int) - 16) = (P : Int) := by rw [IntKind.wrap_i64]; omega
  have hw4 : IntKind.i64.wrap ((P : Int) + 4) = (P4 : Int) := by rw [IntKind.wrap_i64]; omega
  have hw8 : IntKind.i64.wrap ((P : Int) + 8) = (P8 : Int) := by rw [IntKind.wrap_i64]; omega
  have hw12 : IntKind.i64.wrap ((P : Int) + 12) = (P12 : Int) := by rw [IntKind.wrap_i64]; omega
  have hPc : P ≤ c := by omega
  have hPL : P ≤ 65536 := by omega
  have hL0 : ¬ (s.bs.length : Int) = 0 := by omega
  have hL1 : ((s.bs.length : Int) == 0) = false := beq_eq_false_iff_ne.2 hL0
  have hL2 : ¬ s.bs.length = 0 := by omega
  clear hP hP4 hP8 hP12 hcc hsz hmo h16
  have hu0 : IntKind.u32.wrap (nu s.bs P : Int) = (nu s.bs P : Int) := by rw [IntKind.wrap_u32]; omega
  have hu4 : IntKind.u32.wrap (nu s.bs P4 : Int) = (nu s.bs P4 : Int) := by rw [IntKind.wrap_u32]; omega
  have hu8 : IntKind.u32.wrap (nu s.bs P8 : Int) = (nu s.bs P8 : Int) := by rw [IntKind.wrap_u32]; omega
  generalize nu s.bs P = X0 at *
  generalize nu s.bs P4 = X4 at *
  generalize nu s.bs P8 = X8 at *
  generalize nu s.bs P12 = F at *
  generalize s.bs.length = L at *
  go_enter Try.func73, Try.ntmps73
  go_wp2
  go_quiet (fail)
  have hdd : Below w.heap.size w (w.drewN nq) := Dr.below ⟨_, rfl⟩
  generalize w.drewN nq = w2 at *
  obtain ⟨⟨j0, j2, j3, f0, f2, f3, j4⟩, hcut, hfm⟩ := HS.out _ hdd
  have HC := hidden hcut
  have HF := hidden hfm
  clear hcut hfm
  have HSZ : Hid (((w2.setCell ⟨m, 2, none⟩ (.int .i64 F)).setCell ⟨m, 3, none⟩ (.bool true)).heap.size = w2.heap.size) := by (show _ = _; simp)
  go_wp2_with (first | (go_at_call 67; (with_reducible refine (HAP.out _ hdd).mono ?_); rintro e wA ⟨rfl, e1⟩; rw [e1]; clear e1) | (go_at_call 67; (with_reducible refine (HAP4.out _ hdd).mono ?_); rintro e wA ⟨rfl, e1⟩; rw [e1]; clear e1) | (go_at_call 67; (with_reducible refine (HAP8.out _ hdd).mono ?_); rintro e wA ⟨rfl, e1⟩; rw [e1]; clear e1) | (go_at_call 67; (with_reducible refine (HAP12.out _ hdd).mono ?_); rintro e wA ⟨rfl, e1⟩; rw [e1]; clear e1) | (at_builtin; refine wpList_copyOf (w0 := (w2.setCell ⟨m, 2, none⟩ (.int .i64 F)).setCell ⟨m, 3, none⟩ (.bool true)) rfl _ _ rfl P c (some ⟨g, 0, none⟩) _ (by rw [HSZ.out]; rfl) rfl (HC.out.rd _ (Below.refl _ _)) (by omega) ?_; intro g5 c5 w5 ho5 hb5; obtain ⟨⟨q0, qf⟩, p1, p2⟩ := HC.out.st _ _ _ hb5 ho5; have G := hidden (And.intro p1 p2); clear p1 p2 ho5 hb5))
  refine bodyPost_ret (v := .tuple #[.int .u32 X0, .int .u32 X4, .int .u32 X8, .int .i64 0]) (by simp [results, Try.results73, go_sem]) rfl ⟨rfl, _, G.out.1, HF.out.trans G.out.2⟩
theorem dUn_on (B m : Nat) (v : Value) (s : Ks) (w : World) (h : DAt B w m v s) (hB : B ≤ w.heap.size) (ok : OkK s) (hon : s.on = true) (hc : 4 ≤ cnt s) (hne : nu s.bs (s.bs.length - 4) = s.fr) (h16 : 16 ≤ s.bs.length) :
    Calls Try.prog 73 #[.pointer (some ⟨m, 0, none⟩)] w fun e w' => e = .returned (.tuple #[.int .u32 (nu s.bs (s.bs.length - 16)), .int .u32 (nu s.bs (s.bs.length - 16 + 4)), .int .u32 (nu s.bs (s.bs.length - 16 + 8)), .int .i64 0]) ∧ LeftD B w w' m v ⟨s.size, s.bs.take (s.bs.length - 16), nu s.bs (s.bs.length - 4), true⟩ := by
  obtain ⟨a, c, rfl, dc⟩ := h.dc
  obtain ⟨g, rfl⟩ := DC.isSome (w := w) (m := m) h (by omega)
  have hcc : s.bs.length ≤ c := (own_reads h.row).2.1
  have hsz := ok.sz
  have hmo := ok.most
  obtain ⟨P, hP⟩ : ∃ x, x = s.bs.length - 16 := ⟨_, rfl⟩
  obtain ⟨P4, hP4⟩ : ∃ x, x = s.bs.length - 16 + 4 := ⟨_, rfl⟩
  obtain ⟨P8, hP8⟩ : ∃ x, x = s.bs.length - 16 + 8 := ⟨_, rfl⟩
  obtain ⟨P12, hP12⟩ : ∃ x, x = s.bs.length - 4 := ⟨_, rfl⟩
  obtain ⟨b1, b2, b3, b4, b5, b6⟩ := ok.bd hon
  have hC : cnt s ≤ 65536 := by omega
  have HV : Hid (Calls Try.prog 57 #[.pointer (some ⟨m, 0, none⟩)] w fun e w' => ∃ a' c', e = .returned (.slice a' (cnt s) c') ∧ (w'.cell? ⟨m, 0, none⟩ = some (.slice (some ⟨g, 0, none⟩) s.bs.length c) ∧ w'.cell? ⟨m, 2, none⟩ = some (.int .i64 s.fr) ∧ w'.cell? ⟨m, 3, none⟩ = some (.bool s.on)) ∧ Below w.heap.size w w') := by
    refine (dvals_on m _ c s w dc ok hon).mono ?_
    rintro e w' ⟨a', c', rfl, ho, hb⟩
    exact ⟨a', c', rfl, ⟨(dc.later hb).c0, (dc.later hb).c2, (dc.later hb).c3⟩, hb⟩
  rw [← hP12] at hne
  have HAP : Hid (∀ wx, Below w.heap.size w wx → Calls Try.prog 67 #[.pointer (some ⟨m, 0, none⟩), .int .i64 P] wx fun e w' => e = .returned (.int .i64 (nu s.bs P)) ∧ w' = wx) := fun wx hb => dat_any m P _ _ c s.bs wx (dc.later hb).c0 (dc.later hb).rd ok.okb (by omega) (by omega)
  have hnP := nu_lt ok.okb P
  have HAP4 : Hid (∀ wx, Below w.heap.size w wx → Calls Try.prog 67 #[.pointer (some ⟨m, 0, none⟩), .int .i64 P4] wx fun e w' => e = .returned (.int .i64 (nu s.bs P4)) ∧ w' = wx) := fun wx hb => dat_any m P4 _ _ c s.bs wx (dc.later hb).c0 (dc.later hb).rd ok.okb (by omega) (by omega)
  have hnP4 := nu_lt ok.okb P4
  have HAP8 : Hid (∀ wx, Below w.heap.size w wx → Calls Try.prog 67 #[.pointer (some ⟨m, 0, none⟩), .int .i64 P8] wx fun e w' => e = .returned (.int .i64 (nu s.bs P8)) ∧ w' = wx) := fun wx hb => dat_any m P8 _ _ c s.bs wx (dc.later hb).c0 (dc.later hb).rd ok.okb (by omega) (by omega)
  have hnP8 := nu_lt ok.okb P8
  have HAP12 : Hid (∀ wx, Below w.heap.size w wx → Calls Try.prog 67 #[.pointer (some ⟨m, 0, none⟩), .int .i64 P12] wx fun e w' => e = .returned (.int .i64 (nu s.bs P12)) ∧ w' = wx) := fun wx hb => dat_any m P12 _ _ c s.bs wx (dc.later hb).c0 (dc.later hb).rd ok.okb (by omega) (by omega)
  have hnP12 := nu_lt ok.okb P12
  have HS : Hid (∀ wx, Below w.heap.size w wx → (wx.cell? ⟨m, 0, none⟩ = some (.slice (some ⟨g, 0, none⟩) s.bs.length c) ∧ wx.cell? ⟨m, 2, none⟩ = some (.int .i64 s.fr) ∧ wx.cell? ⟨m, 3, none⟩ = some (.bool s.on) ∧ wx.frozen? ⟨m, 0, none⟩ = false ∧ wx.frozen? ⟨m, 2, none⟩ = false ∧ wx.frozen? ⟨m, 3, none⟩ = false ∧ (((wx.setCell ⟨m, 2, none⟩ (.int .i64 (nu s.bs P12))).setCell ⟨m, 3, none⟩ (.bool true)).alloc (.cells #[] 5)).cell? ⟨m, 0, none⟩ = some (.slice (some ⟨g, 0, none⟩) s.bs.length c)) ∧ Cut B ((wx.setCell ⟨m, 2, none⟩ (.int .i64 (nu s.bs P12))).setCell ⟨m, 3, none⟩ (.bool true)) m g s.bs.length c P { s with fr := nu s.bs P12, on := true } ∧ Fm w ((wx.setCell ⟨m, 2, none⟩ (.int .i64 (nu s.bs P12))).setCell ⟨m, 3, none⟩ (.bool true)) (TK m (.slice (some ⟨g, 0, none⟩) s.bs.length c)) (TK m (.slice (some ⟨g, 0, none⟩) s.bs.length c))) := fun wx hb => by
    have h1 := h.later hb
    obtain ⟨k0, _, k2, k3, kf⟩ := h1.cells
    obtain ⟨p1, p2⟩ := h1.set2 (nu s.bs P12)
    obtain ⟨q1, q2⟩ := p1.set3 true
    have f3 := ((Fm.same (T := TK m (.slice (some ⟨g, 0, none⟩) s.bs.length c)) hb).trans p2).trans q2
    exact ⟨⟨k0, k2, k3, kf 0, kf 2, kf 3, cellLater ((Below.refl _ _).alloc (Nat.le_refl _) _) q1.cells.1⟩, DAt.cut (s := { s with fr := nu s.bs P12, on := true }) q1 (Nat.le_trans hB f3.size) P (by simp; omega), f3⟩
  rw [← hP4, ← hP8, ← hP12, ← hP]
  have c0 := dc.c0
  have c3 := dc.c3
  rw [hon] at c3 HV
  clear h dc ok hon
  have hw0 : IntKind.i64.wrap ((s.bs.length : Int) - 16) = (P : Int) := by rw [IntKind.wrap_i64]; omega
  have hw4 : IntKind.i64.wrap ((P : Int) + 4) = (P4 : Int) := by rw [IntKind.wrap_i64]; omega
  have hw8 : IntKind.i64.wrap ((P : Int) + 8) = (P8 : Int) := by rw [IntKind.wrap_i64]; omega
  have hw12 : IntKind.i64.wrap ((P : Int) + 12) = (P12 : Int) := by rw [IntKind.wrap_i64]; omega
  have hPc : P ≤ c := by omega
  have hPL : P ≤ 65536 := by omega
  have hL0 : ¬ (s.bs.length : Int) = 0 := by omega
  have hL1 : ((s.bs.length : Int) == 0) = false := beq_eq_false_iff_ne.2 hL0
  have hL2 : ¬ s.bs.length = 0 := by omega
  have d1 : ¬ (cnt s : Int) < 4 := by omega
  clear b1 b2 b3 b4 b5 b6 hc
  generalize cnt s = C at *
  clear hP hP4 hP8 hP12 hcc hsz hmo h16
  have hu0 : IntKind.u32.wrap (nu s.bs P : Int) = (nu s.bs P : Int) := by rw [IntKind.wrap_u32]; omega
  have hu4 : IntKind.u32.wrap (nu s.bs P4 : Int) = (nu s.bs P4 : Int) := by rw [IntKind.wrap_u32]; omega
  have hu8 : IntKind.u32.wrap (nu s.bs P8 : Int) = (nu s.bs P8 : Int) := by rw [IntKind.wrap_u32]; omega
  generalize nu s.bs P = X0 at *
  generalize nu s.bs P4 = X4 at *
  generalize nu s.bs P8 = X8 at *
  generalize nu s.bs P12 = F at *
  generalize s.bs.length = L at *
  generalize s.fr = f at *
  subst hne
  go_enter Try.func73, Try.ntmps73
  go_wp2_with (first | (go_at_call 57; refine HV.out.mono ?_; rintro e w1 ⟨a', c', rfl, ⟨k0, k2, k3⟩, hb⟩))
  go_quiet (first | (go_at_call 67; exact Calls.quiet_of_same (HAP12.out _ (hb.trans ((Dr.below ⟨_, rfl⟩).mono hb.size)))))
  have hdd : Below w.heap.size w (w1.drewN nq) := hb.trans ((Dr.below ⟨_, rfl⟩).mono hb.size)
  clear k0 k2 k3
  generalize w1.drewN nq = w2 at *
  obtain ⟨⟨j0, j2, j3, f0, f2, f3, j4⟩, hcut, hfm⟩ := HS.out _ hdd
  have HC := hidden hcut
  have HF := hidden hfm
  clear hcut hfm
  have HSZ : Hid (((w2.setCell ⟨m, 2, none⟩ (.int .i64 F)).setCell ⟨m, 3, none⟩ (.bool true)).heap.size = w2.heap.size) := by (show _ = _; simp)
  go_wp2_with (first | (go_at_call 67; (with_reducible refine (HAP.out _ hdd).mono ?_); rintro e wA ⟨rfl, e1⟩; rw [e1]; clear e1) | (go_at_call 67; (with_reducible refine (HAP4.out _ hdd).mono ?_); rintro e wA ⟨rfl, e1⟩; rw [e1]; clear e1) | (go_at_call 67; (with_reducible refine (HAP8.out _ hdd).mono ?_); rintro e wA ⟨rfl, e1⟩; rw [e1]; clear e1) | (go_at_call 67; (with_reducible refine (HAP12.out _ hdd).mono ?_); rintro e wA ⟨rfl, e1⟩; rw [e1]; clear e1) | (at_builtin; refine wpList_copyOf (w0 := (w2.setCell ⟨m, 2, none⟩ (.int .i64 F)).setCell ⟨m, 3, none⟩ (.bool true)) rfl _ _ rfl P c (some ⟨g, 0, none⟩) _ (by rw [HSZ.out]; rfl) rfl (HC.out.rd _ (Below.refl _ _)) (by omega) ?_; intro g5 c5 w5 ho5 hb5; obtain ⟨⟨q0, qf⟩, p1, p2⟩ := HC.out.st _ _ _ hb5 ho5; have G := hidden (And.intro p1 p2); clear p1 p2 ho5 hb5))
  refine bodyPost_ret (v := .tuple #[.int .u32 X0, .int .u32 X4, .int .u32 X8, .int .i64 0]) (by simp [results, Try.results73, go_sem]) rfl ⟨rfl, _, G.out.1, HF.out.trans G.out.2⟩
end Go.Proofs.Ythhkennomnmjkaa
namespace Go.Proofs.Ythhkennomnmjkaa
open Go.RowKit
set_option maxHeartbeats 1000000
set_option maxRecDepth 100000
set_option linter.unusedVariables false

theorem dUnstub_any (B m : Nat) (v : Value) (s : Ks) (w : World) (h : DAt B w m v s) (hB : B ≤ w.heap.size) (ok : OkK s) :
    Calls Try.prog 73 #[.pointer (some ⟨m, 0, none⟩)] w fun e w' => e = .returned (.tuple #[.int .u32 (unV s 0), .int .u32 (unV s 4), .int .u32 (unV s 8), .int .i64 (stubE s)]) ∧ LeftD B w w' m v (unstubS s) := by
  obtain ⟨a, c, e0, dc⟩ := h.dc
  unfold unV unstubS
  cases hon : s.on with
  | false =>
    by_cases hb : s.bs = []
    · have e1 : stubE s = 5 := by unfold stubE; rw [hon]; simp [hb]
      rw [e1]
      refine (dUn_none m a c s w dc hon hb).mono ?_
      rintro e w' ⟨rfl, hb⟩
      exact ⟨rfl, LeftD.same h hb⟩
    · have e1 : stubE s = 0 := by unfold stubE; rw [hon]; simp [hb]
      rw [e1, if_pos rfl, if_pos rfl, if_pos rfl, if_pos rfl]
      have h16 : 16 ≤ s.bs.length := by
        rcases (ok.non hon).2 with h1 | h1
        · exact absurd h1 hb
        · exact h1.1
      exact dUn_off B m v s w h hB ok hon h16
  | true =>
    by_cases hc : cnt s < 4
    · have e1 : stubE s = 101 := by unfold stubE; rw [hon]; simp [hc]
      rw [e1]
      refine (dUn_few m a c s w dc ok hon hc).mono ?_
      rintro e w' ⟨rfl, hb⟩
      exact ⟨rfl, LeftD.same h hb⟩
    · by_cases hf : nu s.bs (s.bs.length - 4) = s.fr
      · have e1 : stubE s = 0 := (stubE_on hon).2 ⟨by omega, hf⟩
        rw [e1, if_pos rfl, if_pos rfl, if_pos rfl, if_pos rfl]
        have hbd := ok.bd hon
        exact dUn_on B m v s w h hB ok hon (by omega) hf (by omega)
      · have e1 : stubE s = 102 := by unfold stubE; rw [hon]; simp [hc, hf]
        rw [e1]
        refine (dUn_other m a c s w dc ok hon (by omega) hf).mono ?_
        rintro e w' ⟨rfl, hb⟩
        exact ⟨rfl, LeftD.same h hb⟩
end Go.Proofs.Ythhkennomnmjkaa
namespace Go.Proofs.Ythhkennomnmjkaa
open Go.RowKit
set_option maxHeartbeats 1000000
set_option maxRecDepth 100000
set_option linter.unusedVariables false

/-- what Local tells -/
def locV (s : Ks) (x : Nat) (n : Int) : Int := if locE s x n = 0 then beV s.bs (posK s + x) n else 0
theorem dLocal_bad (m x : Nat) (n : Int) (a : Option Addr) (c : Nat) (s : Ks) (w : World) (hn : ¬ (n = 1 ∨ n = 2 ∨ n = 4)) :
    Calls Try.prog 41 #[.pointer (some ⟨m, 0, none⟩), .int .u32 x, .int .i64 n] w fun e w' => e = .returned (.tuple #[.int .u32 0, .int .i64 1]) ∧ Below w.heap.size w w' := by
  have d1 : (n != 1) = true := by simp; omega
  have d2 : (n != 2) = true := by simp; omega
  have d3 : (n != 4) = true := by simp; omega
  have q1 : ¬ n = 1 := by omega
  have q2 : ¬ n = 2 := by omega
  have q3 : ¬ n = 4 := by omega
  clear hn
  go_enter Try.func41, Try.ntmps41
  go_wp2
  refine bodyPost_ret (v := .tuple #[.int .u32 0, .int .i64 1]) (by simp [results, Try.results41, go_sem]) rfl ⟨rfl, Below.refl _ _⟩
theorem dLocal_off (m x : Nat) (n : Int) (a : Option Addr) (c : Nat) (s : Ks) (w : World) (dc : DC w m a c s) (hn : n = 1 ∨ n = 2 ∨ n = 4) (hon : s.on = false) :
    Calls Try.prog 41 #[.pointer (some ⟨m, 0, none⟩), .int .u32 x, .int .i64 n] w fun e w' => e = .returned (.tuple #[.int .u32 0, .int .i64 102]) ∧ Below w.heap.size w w' := by
  have c3 := dc.c3
  rw [hon] at c3
  clear dc
  rcases hn with rfl | rfl | rfl <;> (
    go_enter Try.func41, Try.ntmps41
    go_wp2
    refine bodyPost_ret (v := .tuple #[.int .u32 0, .int .i64 102]) (by simp [results, Try.results41, go_sem]) rfl ⟨rfl, Below.refl _ _⟩)
theorem dLocal_over (m x : Nat) (n : Int) (a : Option Addr) (c : Nat) (s : Ks) (w : World) (dc : DC w m a c s) (ok : OkK s) (hn : n = 1 ∨ n = 2 ∨ n = 4) (hon : s.on = true) (hx : x < 4294967296) (hov : (lszK s : Int) < x + n) :
    Calls Try.prog 41 #[.pointer (some ⟨m, 0, none⟩), .int .u32 x, .int .i64 n] w fun e w' => e = .returned (.tuple #[.int .u32 0, .int .i64 103]) ∧ Below w.heap.size w w' := by
  obtain ⟨b1, b2, b3, b4, b5, b6⟩ := ok.bd hon
  have hlo := ok.loc hon
  have hsz := ok.sz
  have hmo := ok.most
  obtain ⟨P4, hP4⟩ : ∃ y, y = s.fr + 4 := ⟨_, rfl⟩
  have HA : Hid (Calls Try.prog 67 #[.pointer (some ⟨m, 0, none⟩), .int .i64 s.fr] w fun e w' => e = .returned (.int .i64 (nu s.bs s.fr)) ∧ w' = w) := dat_any m s.fr a _ c s.bs w dc.c0 dc.rd ok.okb (by omega) (by omega)
  have HA4 : Hid (Calls Try.prog 67 #[.pointer (some ⟨m, 0, none⟩), .int .i64 P4] w fun e w' => e = .returned (.int .i64 (nu s.bs P4)) ∧ w' = w) := dat_any m P4 a _ c s.bs w dc.c0 dc.rd ok.okb (by omega) (by omega)
  have hE : endK s = s.fr + nu s.bs s.fr := rfl
  have hPo : posK s = s.fr + nu s.bs P4 := by rw [hP4]; rfl
  have hZ : lszK s = endK s - posK s := rfl
  have c2 := dc.c2
  have c3 := dc.c3
  rw [hon] at c3
  clear dc ok hon
  have hw4 : IntKind.i64.wrap ((s.fr : Int) + 4) = (P4 : Int) := by rw [IntKind.wrap_i64]; omega
  generalize nu s.bs s.fr = N at *
  generalize nu s.bs P4 = Q at *
  have hwx : IntKind.i64.wrap (x : Int) = (x : Int) := by rw [IntKind.wrap_i64]; omega
  have hwd : IntKind.i64.wrap ((N : Int) - (Q : Int)) = (lszK s : Int) := by rw [IntKind.wrap_i64]; omega
  clear hE hPo hZ hlo b1 b2 b3 b4 b5 b6 hsz hmo hP4
  generalize lszK s = Z at *
  generalize s.fr = f at *
  have key : ∀ k : Int, n = k → (1 ≤ k ∧ k ≤ 4) → IntKind.i64.wrap ((x : Int) + k) = (x : Int) + k ∧ (x : Int) + k > (Z : Int) := fun k e hk => ⟨by rw [IntKind.wrap_i64]; omega, by omega⟩
  rcases hn with rfl | rfl | rfl
  all_goals (
    obtain ⟨hk1, hk2⟩ := key _ rfl (by omega)
    clear key hov
    go_enter Try.func41, Try.ntmps41
    go_wp2_with (first | (go_at_call 67; (with_reducible refine HA4.out.mono ?_); rintro e wA ⟨rfl, e1⟩; rw [e1]; clear e1) | (go_at_call 67; (with_reducible refine HA.out.mono ?_); rintro e wA ⟨rfl, e1⟩; rw [e1]; clear e1))
    refine bodyPost_ret (v := .tuple #[.int .u32 0, .int .i64 103]) (by simp [results, Try.results41, go_sem]) rfl ⟨rfl, Below.refl _ _⟩)
theorem lszK_eq (s : Ks) : lszK s = endK s - posK s := rfl
theorem dLocal_good (m x : Nat) (n : Int) (a : Option Addr) (c : Nat) (s : Ks) (w : World) (dc : DC w m a c s) (ha : 0 < s.bs.length → ∃ g, a = some ⟨g, 0, none⟩) (ok : OkK s) (hn : n = 1 ∨ n = 2 ∨ n = 4) (hon : s.on = true) (hx : x < 4294967296) (hov : (x : Int) + n ≤ (lszK s : Int)) :
    Calls Try.prog 41 #[.pointer (some ⟨m, 0, none⟩), .int .u32 x, .int .i64 n] w fun e w' => e = .returned (.tuple #[.int .u32 (beV s.bs (posK s + x) n), .int .i64 0]) ∧ Below w.heap.size w w' := by
  obtain ⟨b1, b2, b3, b4, b5, b6⟩ := ok.bd hon
  have hlo := ok.loc hon
  have hsz := ok.sz
  have hmo := ok.most
  obtain ⟨P4, hP4⟩ : ∃ y, y = s.fr + 4 := ⟨_, rfl⟩
  have HA : Hid (Calls Try.prog 67 #[.pointer (some ⟨m, 0, none⟩), .int .i64 s.fr] w fun e w' => e = .returned (.int .i64 (nu s.bs s.fr)) ∧ w' = w) := dat_any m s.fr a _ c s.bs w dc.c0 dc.rd ok.okb (by omega) (by omega)
  have HA4 : Hid (Calls Try.prog 67 #[.pointer (some ⟨m, 0, none⟩), .int .i64 P4] w fun e w' => e = .returned (.int .i64 (nu s.bs P4)) ∧ w' = w) := dat_any m P4 a _ c s.bs w dc.c0 dc.rd ok.okb (by omega) (by omega)
  obtain ⟨g, rfl⟩ : ∃ g, a = some ⟨g, 0, none⟩ := ha (by omega)
  have HBE : Hid (∀ q, Calls Try.prog 71 #[.slice (some ⟨g, 0, none⟩) s.bs.length c, .int .i64 (posK s + x : Nat), .int .i64 n] (w.drewN q) fun e w' => e = .returned (.tuple #[.int .u32 (beV s.bs (posK s + x) n), .int .i64 0]) ∧ w' = w.drewN q) := fun q => by
    have hrd := dc.rd.later (Dr.below ⟨q, rfl⟩)
    obtain ⟨g', o', e', hB⟩ := hrd.bs (by omega)
    cases e'
    refine (rbe_any g 0 s.bs.length c s.bs ((posK s + x : Nat) : Int) n _ hn (by omega) (by omega) (by have := lszK_eq s; omega) hrd.2.1 hB.2 ok.okb).mono ?_
    rintro e w' ⟨h1, _, h3⟩
    refine ⟨?_, h3⟩
    rw [h1 (by have := lszK_eq s; omega), Int.toNat_natCast]
  have hE : endK s = s.fr + nu s.bs s.fr := rfl
  have hPo : posK s = s.fr + nu s.bs P4 := by rw [hP4]; rfl
  have hZ : lszK s = endK s - posK s := rfl
  have c0 := dc.c0
  have c2 := dc.c2
  have c3 := dc.c3
  rw [hon] at c3
  clear dc ok hon
  have hw4 : IntKind.i64.wrap ((s.fr : Int) + 4) = (P4 : Int) := by rw [IntKind.wrap_i64]; omega
  generalize nu s.bs s.fr = N at *
  generalize nu s.bs P4 = Q at *
  have hwx : IntKind.i64.wrap (x : Int) = (x : Int) := by rw [IntKind.wrap_i64]; omega
  have hwd : IntKind.i64.wrap ((N : Int) - (Q : Int)) = (lszK s : Int) := by rw [IntKind.wrap_i64]; omega
  have hwp : IntKind.i64.wrap ((s.fr : Int) + (Q : Int)) = (posK s : Int) := by rw [IntKind.wrap_i64]; omega
  have hwq : IntKind.i64.wrap ((posK s : Int) + (x : Int)) = ((posK s + x : Nat) : Int) := by rw [IntKind.wrap_i64]; omega
  clear hE hPo hZ hlo b1 b2 b3 b4 b5 b6 hsz hmo hP4
  generalize lszK s = Z at *
  generalize hBV : beV s.bs (posK s + x) n = V at *
  clear hBV
  generalize ((posK s + x : Nat) : Int) = PX at *
  generalize posK s = PK at *
  generalize s.fr = f at *
  have key : ∀ k : Int, n = k → (1 ≤ k ∧ k ≤ 4) → IntKind.i64.wrap ((x : Int) + k) = (x : Int) + k ∧ ¬ (x : Int) + k > (Z : Int) := fun k e hk => ⟨by rw [IntKind.wrap_i64]; omega, by omega⟩
  rcases hn with rfl | rfl | rfl
  all_goals (
    obtain ⟨hk1, hk2⟩ := key _ rfl (by omega)
    clear key hov
    go_enter Try.func41, Try.ntmps41
    go_wp2_with (first | (go_at_call 67; (with_reducible refine HA4.out.mono ?_); rintro e wA ⟨rfl, e1⟩; rw [e1]; clear e1) | (go_at_call 67; (with_reducible refine HA.out.mono ?_); rintro e wA ⟨rfl, e1⟩; rw [e1]; clear e1))
    go_quiet (first | (go_at_call 71; exact Calls.quiet_of_same (HBE.out _)))
    all_goals (try go_wp2)
    refine bodyPost_ret (v := .tuple #[.int .u32 V, .int .i64 0]) (by simp [results, Try.results41, go_sem]) rfl ⟨rfl, Dr.below ⟨_, rfl⟩⟩)
end Go.Proofs.Ythhkennomnmjkaa
namespace Go.Proofs.Ythhkennomnmjkaa
open Go.RowKit
set_option maxHeartbeats 1000000
set_option maxRecDepth 100000
set_option linter.unusedVariables false

theorem dLocal_any (B m x : Nat) (n : Int) (v : Value) (s : Ks) (w : World) (h : DAt B w m v s) (ok : OkK s) (hx : x < 4294967296) :
    Calls Try.prog 41 #[.pointer (some ⟨m, 0, none⟩), .int .u32 x, .int .i64 n] w fun e w' => e = .returned (.tuple #[.int .u32 (locV s x n), .int .i64 (locE s x n)]) ∧ Below w.heap.size w w' := by
  obtain ⟨a, c, e0, dc⟩ := h.dc
  unfold locV
  by_cases hn : n = 1 ∨ n = 2 ∨ n = 4
  · cases hon : s.on with
    | false =>
      have e1 : locE s x n = 102 := by unfold locE; rw [if_neg (fun k => k hn), if_pos hon]
      rw [e1]
      exact dLocal_off m x n a c s w dc hn hon
    | true =>
      by_cases hov : (lszK s : Int) < x + n
      · have e1 : locE s x n = 103 := by unfold locE; rw [if_neg (fun k => k hn), if_neg (by rw [hon]; simp), if_pos hov]
        rw [e1]
        exact dLocal_over m x n a c s w dc ok hn hon hx hov
      · have e1 : locE s x n = 0 := by unfold locE; rw [if_neg (fun k => k hn), if_neg (by rw [hon]; simp), if_neg hov]
        rw [e1, if_pos rfl]
        subst e0
        exact dLocal_good m x n a c s w dc (fun h0 => DC.isSome (w := w) (m := m) h h0) ok hn hon hx (by omega)
  · have e1 : locE s x n = 1 := by unfold locE; rw [if_pos hn]
    rw [e1]
    exact dLocal_bad m x n a c s w hn
end Go.Proofs.Ythhkennomnmjkaa
namespace Go.Proofs.Ythhkennomnmjkaa
open Go.RowKit
set_option maxHeartbeats 1000000
set_option maxRecDepth 100000
set_option linter.unusedVariables false

theorem down_any (B m : Nat) (v : Value) (s : Ks) (w : World) (h : DAt B w m v s) (ok : OkK s) (hon : s.on = true) :
    Calls Try.prog 66 #[.pointer (some ⟨m, 0, none⟩)] w fun e w' => ∃ a' c', e = .returned (.slice a' (frF s.bs s.fr).length c') ∧ Reads w' a' (frF s.bs s.fr).length c' (frF s.bs s.fr) ∧ Below w.heap.size w w' := by
  obtain ⟨a, c, rfl, dc⟩ := h.dc
  obtain ⟨b1, b2, b3, b4, b5, b6⟩ := ok.bd hon
  have hsz := ok.sz
  have hmo := ok.most
  obtain ⟨g, rfl⟩ := DC.isSome (w := w) (m := m) h (by omega)
  have hrd := dc.rd
  have hcc : s.bs.length ≤ c := hrd.2.1
  obtain ⟨P, hP⟩ : ∃ y, y = s.fr + 8 := ⟨_, rfl⟩
  obtain ⟨N, hN⟩ : ∃ y, y = s.bs.length - P := ⟨_, rfl⟩
  obtain ⟨K, hK⟩ : ∃ y, y = fmtL (s.bs.drop P) := ⟨_, rfl⟩
  have hKN : K ≤ N := by
    have := (fmtL_le (s.bs.drop P)).1
    rw [List.length_drop] at this
    omega
  have hfl : (frF s.bs s.fr).length = K := by rw [frF_len, hK, hP]
  have hsub : ∀ w', Below w.heap.size w w' → ∀ k cc, k ≤ N → k ≤ cc → Reads w' (some ⟨g, P, none⟩) k cc (seg s.bs P k) := fun w' hb k cc hk hkc => by
    obtain ⟨g2, o2, e2, hB2⟩ := (hrd.later hb).bs (by omega)
    cases e2
    have := hB2.sub P k cc (by omega) hkc
    rw [Nat.zero_add] at this
    exact this
  have hs1 : seg s.bs P N = s.bs.drop P := by
    unfold seg
    rw [List.take_of_length_le (by rw [List.length_drop]; omega)]
  have HF : Hid (∀ q, Calls Try.prog 85 #[.slice (some ⟨g, P, none⟩) N (c - P)] (w.drewN q) fun e w' => e = .returned (.int .i64 K) ∧ Hid (Reads w' (some ⟨g, P, none⟩) K (c - P) (frF s.bs s.fr) ∧ Below w.heap.size w w')) := fun q => by
    have := dfmt_any (some ⟨g, P, none⟩) N (c - P) (s.bs.drop P) (w.drewN q) (by rw [← hs1]; exact hsub _ (Dr.below ⟨q, rfl⟩) N _ (by omega) (by omega)) (fun z hz => ok.okb z (List.mem_of_mem_drop hz)) (by omega)
    rw [← hK] at this
    refine this.mono ?_
    rintro e w' ⟨rfl, hd⟩
    have hb0 : Below w.heap.size w (w.drewN q) := Dr.below ⟨q, rfl⟩
    have hb : Below w.heap.size w w' := hb0.trans (hd.below.mono hb0.size)
    refine ⟨rfl, ?_, hb⟩
    have e : frF s.bs s.fr = seg s.bs P K := by unfold frF; rw [← hP, ← hK]
    rw [e]
    exact hsub _ hb K (c - P) hKN (by omega)
  have c0 := dc.c0
  have c2 := dc.c2
  rw [hfl]
  clear h dc ok hon hsub hs1 hrd hfl
  generalize frF s.bs s.fr = FF at *
  have hw : IntKind.i64.wrap ((s.fr : Int) + 8) = (P : Int) := by rw [IntKind.wrap_i64]; omega
  have l1 : P ≤ s.bs.length := by omega
  have l2 : ¬ c = P := by omega
  have l3 : s.bs.length - P = N := hN.symm
  have l4 : K ≤ c - P := by omega
  clear hK hN hP b1 b2 b3 b4 b5 b6
  generalize s.bs.length = L at *
  generalize s.fr = f at *
  go_enter Try.func66, Try.ntmps66
  go_wp2
  go_quiet (fail)
  go_wp2_with (first | (go_at_call 85; refine (HF.out _).mono ?_; rintro e wA ⟨rfl, HW⟩))
  go_ret
  exact ⟨_, _, rfl, HW.out.1, HW.out.2⟩
end Go.Proofs.Ythhkennomnmjkaa
namespace Go.Proofs.Ythhkennomnmjkaa
open Go.RowKit
set_option maxHeartbeats 1000000
set_option maxRecDepth 100000
set_option linter.unusedVariables false

theorem be_seg (zs : List Int) (p k x : Nat) (n : Int) (hn : n = 1 ∨ n = 2 ∨ n = 4) (hx : (x : Int) + n ≤ (k : Int)) (hk : p + k ≤ zs.length) : beV (seg zs p k) x n = beV zs (p + x) n := by
  have e : ∀ j, x + j < k → (seg zs p k).getD (x + j) 0 = zs.getD (p + x + j) 0 := fun j hj => by rw [seg_at zs p k (x + j) hj hk, Nat.add_assoc]
  unfold beV
  rcases hn with rfl | rfl | rfl
  · rw [if_pos rfl, if_pos rfl]
    have := e 0 (by omega)
    simpa using this
  · have e0 := e 0 (by omega)
    simp only [Nat.add_zero] at e0
    rw [if_neg (by decide), if_pos rfl, if_neg (by decide), if_pos rfl, e0, e 1 (by omega)]
  · have e0 := e 0 (by omega)
    simp only [Nat.add_zero] at e0
    rw [if_neg (by decide), if_neg (by decide), if_neg (by decide), if_neg (by decide), e0, e 1 (by omega), e 2 (by omega), e 3 (by omega)]
theorem kLocal_any (B m x : Nat) (n : Int) (v : Value) (s : Ks) (w : World) (h : KAt B w m v s) (ok : OkK s) (hx : x < 4294967296) :
    Calls Try.prog 40 #[.pointer (some ⟨m, 0, none⟩), .int .u32 x, .int .i64 n] w fun e w' => e = .returned (.tuple #[.int .u32 (locV s x n), .int .i64 (locE s x n)]) ∧ Dr w w' := by
  obtain ⟨a, c, rfl⟩ := own_slice8 h.row
  have kc := h.kc
  have hsz := ok.sz
  have hmo := ok.most
  have HL := hidden (klacksL_any m a c s x n w kc ok (fun hon => KC.isSome (w := w) (m := m) h (by have := ok.bd hon; omega)) hx)
  unfold locV
  by_cases he : locE s x n = 0
  · rw [if_pos he, he]
    rw [he] at HL
    have hn : n = 1 ∨ n = 2 ∨ n = 4 := Classical.byContradiction fun k => by
      unfold locE at he
      rw [if_pos k] at he
      cases he
    have hon : s.on = true := by
      cases ho : s.on with
      | true => rfl
      | false =>
        unfold locE at he
        rw [if_neg (fun k => k hn), if_pos ho] at he
        cases he
    have hov : (x : Int) + n ≤ (lszK s : Int) := Classical.byContradiction fun k => by
      unfold locE at he
      rw [if_neg (fun k => k hn), if_neg (by rw [hon]; simp), if_pos (by omega)] at he
      cases he
    have hbd := ok.bd hon
    have hlo := ok.loc hon
    have hle := lszK_eq s
    obtain ⟨g, rfl⟩ := KC.isSome (w := w) (m := m) h (by omega)
    have hcc : s.bs.length ≤ c := kc.rd.2.1
    have HK : Hid (∀ w1, Dr w w1 → Calls Try.prog 61 #[.pointer (some ⟨m, 0, none⟩)] w1 fun e w' => e = .returned (.slice (some ⟨g, posK s, none⟩) (lszK s) (c - posK s)) ∧ Dr w w') := fun w1 hd => by
      refine (klocals_any m g c s w1 (kc.later hd.below) ok hon).mono ?_
      rintro e w' ⟨⟨p, rfl, hp⟩, hd2⟩
      rw [hp (by omega)]
      exact ⟨rfl, hd.trans hd2⟩
    have HBE : Hid (∀ w1, Dr w w1 → Calls Try.prog 70 #[.slice (some ⟨g, posK s, none⟩) (lszK s) (c - posK s), .int .i64 x, .int .i64 n] w1 fun e w' => e = .returned (.tuple #[.int .u32 (beV s.bs (posK s + x) n), .int .i64 0]) ∧ w' = w1) := fun w1 hd => by
      obtain ⟨g2, o2, e2, hB2⟩ := ((kc.later hd.below).rd).bs (by omega)
      cases e2
      have hr := hB2.sub (posK s) (lszK s) (c - posK s) (by omega) (by omega)
      rw [Nat.zero_add] at hr
      obtain ⟨g3, o3, e3, hB3⟩ := hr.bs (by omega)
      cases e3
      have := be_any g (posK s) (lszK s) (c - posK s) (seg s.bs (posK s) (lszK s)) (x : Int) n w1 hn (by omega) hov (by omega) (by omega) hB3.2 (seg_okb ok.okb _ _)
      rw [Int.toNat_natCast, be_seg s.bs (posK s) (lszK s) x n hn hov (by omega)] at this
      exact this
    clear h kc ok hon hbd hlo hle hcc he hn hov
    have hwx : IntKind.i64.wrap (x : Int) = (x : Int) := by rw [IntKind.wrap_i64]; omega
    generalize beV s.bs (posK s + x) n = V at *
    generalize lszK s = Z at *
    generalize posK s = P at *
    go_enter Try.func40, Try.ntmps40
    go_wp2_with (first | (go_at_call 69; refine HL.out.mono ?_; rintro e w1 ⟨rfl, hd1⟩) | (go_at_call 61; refine (HK.out _ hd1).mono ?_; rintro e w2 ⟨rfl, hd2⟩) | (go_at_call 70; refine (HBE.out _ hd2).mono ?_; rintro e w3 ⟨rfl, e3⟩; rw [e3]; clear e3))
    refine bodyPost_ret (v := .tuple #[.int .u32 V, .int .i64 0]) (by simp [results, Try.results40, go_sem]) rfl ⟨rfl, hd2⟩
  · rw [if_neg he]
    clear h kc ok
    generalize locE s x n = E at *
    have q : ((E : Int) != 0) = true := by simp; omega
    have q2 : ¬ (E : Int) = 0 := by omega
    go_enter Try.func40, Try.ntmps40
    go_wp2_with (first | (go_at_call 69; refine HL.out.mono ?_; rintro e w1 ⟨rfl, hd1⟩))
    refine bodyPost_ret (v := .tuple #[.int .u32 0, .int .i64 E]) (by simp [results, Try.results40, go_sem]) rfl ⟨rfl, hd1⟩
end Go.Proofs.Ythhkennomnmjkaa
namespace Go.Proofs.Ythhkennomnmjkaa
open Go.RowKit
set_option maxHeartbeats 1000000
set_option maxRecDepth 100000
set_option linter.unusedVariables false

/-- append of a row that is read, nil or empty or not, in a region that draws -/
theorem step_appR {w : World} {ops : Array Oper} {o : Oper} {a : Act} {K : Act → World → Prop} {Q : Exit → Act → World → Prop} {E : Prop} (hgd : o.guard = none) (s x : Operand)
    (ho : o.op = .call { callee := .builtin .append, args := #[s, x], argTypes := #[24, 24] })
    (base g n c m c0 : Nat) (sa : Option Addr) (zs ds : List Int) (hs : a.eval s = .slice (some ⟨g, 0, none⟩) n c) (hx : a.eval x = .slice sa m c0) (hown : w.ownsRow base 5 1 (.slice (some ⟨g, 0, none⟩) n c) n (bytesV zs)) (hr : Reads w sa m c0 ds) (h63 : n + m ≤ 4294967296) (hbase : base ≤ w.heap.size)
    (h : ∀ g' c' w', w'.ownsRow base 5 1 (.slice (some ⟨g', 0, none⟩) (n + m) c') (n + m) (bytesV (zs ++ ds)) → Hid (Fm w w' (fun k => (Value.slice (some ⟨g, 0, none⟩) n c).ownBlock = some k) (fun k => (Value.slice (some ⟨g', 0, none⟩) (n + m) c').ownBlock = some k)) → K (a.put o.dst (.slice (some ⟨g', 0, none⟩) (n + m) c')) w') :
    if Region.wanted o (yielded ops a.tmps) = true then Oper.wp Try.prog o a w K Q else E := by
  have hw : Region.wanted o (yielded ops a.tmps) = true := by simp [Region.wanted, hgd]
  rw [if_pos hw]
  obtain ⟨g', c', w', hrun, h1, h2⟩ := app_reads base g n c m c0 sa zs ds w hown hr h63 hbase
  have hK := h g' c' w' h1 h2
  unfold Oper.wp
  simp [execOp, ho, resolve, invoke, builtin, hs, hx, hrun, Result.andThen]
  exact hK
theorem kDup_bad (B m n : Nat) (v : Value) (s : Ks) (w : World) (h : KAt B w m v s) (ok : OkK s) (hn : n < 4294967296) (he : dupE s n ≠ 0) :
    Calls Try.prog 32 #[.pointer (some ⟨m, 0, none⟩), .int .u32 n] w fun e w' => e = .returned (.int .i64 (dupE s n)) ∧ Dr w w' := by
  obtain ⟨a, c, rfl⟩ := own_slice8 h.row
  have HL := hidden (kroomf_any m a c s n n w h.kc ok (by omega))
  have hwx : IntKind.i64.wrap (n : Int) = (n : Int) := by rw [IntKind.wrap_i64]; omega
  unfold dupE at he ⊢
  clear h ok
  generalize roomForE s n n = E at *
  have q : ((E : Int) != 0) = true := by simp; omega
  have q2 : ¬ (E : Int) = 0 := by omega
  go_enter Try.func32, Try.ntmps32
  go_wp2_with (first | (go_at_call 50; refine HL.out.mono ?_; rintro e w1 ⟨rfl, hd1⟩))
  go_ret
  exact ⟨rfl, hd1⟩
end Go.Proofs.Ythhkennomnmjkaa
namespace Go.Proofs.Ythhkennomnmjkaa
open Go.RowKit
set_option maxHeartbeats 1000000
set_option maxRecDepth 100000
set_option linter.unusedVariables false

theorem kDup_good (B m n : Nat) (v : Value) (s : Ks) (w : World) (h : KAt B w m v s) (hB : B ≤ w.heap.size) (ok : OkK s) (hn : n < 4294967296) (he : roomForE s n n = 0) (hon : s.on = true) (hc : n ≤ cnt s) (hrm : s.bs.length + 4 * n ≤ s.size) :
    Calls Try.prog 32 #[.pointer (some ⟨m, 0, none⟩), .int .u32 n] w fun e w' => e = .returned (.int .i64 0) ∧ LeftK B w w' m v { s with bs := s.bs ++ s.bs.drop (s.bs.length - 4 * n) } := by
  obtain ⟨a, c, rfl⟩ := own_slice8 h.row
  have HL := hidden (kroomf_any m a c s n n w h.kc ok (by omega))
  rw [he] at HL
  obtain ⟨b1, b2, b3, b4, b5, b6⟩ := ok.bd hon
  have hmo := ok.most
  obtain ⟨g, rfl⟩ := KC.isSome (w := w) (m := m) h (by omega)
  have kc := h.kc
  have hcc : s.bs.length ≤ c := kc.rd.2.1
  have HT : Hid (∀ w1, Dr w w1 → Calls Try.prog 52 #[.pointer (some ⟨m, 0, none⟩), .int .i64 n] w1 fun e w' => ∃ p, e = .returned (.slice (some ⟨g, p, none⟩) (4 * n) (c - (s.bs.length - 4 * n))) ∧ Hid (Reads w' (some ⟨g, p, none⟩) (4 * n) (c - (s.bs.length - 4 * n)) (s.bs.drop (s.bs.length - 4 * n))) ∧ Hid (Dr w w')) := fun w1 hd => by
    refine (ktop_any m g c n s w1 (kc.later hd.below) ok (by omega)).mono ?_
    rintro e w' ⟨⟨p, rfl, hp⟩, hd2⟩
    have hdd := hd.trans hd2
    refine ⟨p, rfl, ?_, hdd⟩
    show Reads _ _ _ _ _
    by_cases h0 : 0 < n
    · rw [hp h0]
      obtain ⟨g2, o2, e2, hB2⟩ := ((kc.later hdd.below).rd).bs (by omega)
      cases e2
      have := hB2.sub (s.bs.length - 4 * n) (4 * n) (c - (s.bs.length - 4 * n)) (by omega) (by omega)
      rw [Nat.zero_add] at this
      unfold seg at this
      rw [List.take_of_length_le (by rw [List.length_drop]; omega)] at this
      exact this
    · obtain rfl : n = 0 := by omega
      exact ⟨by simp, by omega, .inr ⟨_, rfl, fun i hi => by omega⟩⟩
  have HO : Hid (∀ wx, Below w.heap.size w wx → wx.ownsRow B 5 1 (.slice (some ⟨g, 0, none⟩) s.bs.length c) s.bs.length (bytesV s.bs) ∧ wx.cell? ⟨m, 1, none⟩ = some (.slice (some ⟨g, 0, none⟩) s.bs.length c) ∧ wx.frozen? ⟨m, 1, none⟩ = false ∧ B ≤ wx.heap.size) := fun wx hb => by
    obtain ⟨_, k1, _, _, kf⟩ := (h.later hb).cells
    exact ⟨own_later h.row hb, k1, kf 1, Nat.le_trans hB hb.size⟩
  have HST : Hid (∀ (wx w2 : World) (g' c' : Nat), Below w.heap.size w wx → w2.ownsRow B 5 1 (.slice (some ⟨g', 0, none⟩) (s.bs.length + 4 * n) c') (s.bs.length + 4 * n) (bytesV (s.bs ++ s.bs.drop (s.bs.length - 4 * n))) → Fm wx w2 (fun k => (Value.slice (some ⟨g, 0, none⟩) s.bs.length c).ownBlock = some k) (fun k => (Value.slice (some ⟨g', 0, none⟩) (s.bs.length + 4 * n) c').ownBlock = some k) → (w2.cell? ⟨m, 1, none⟩ = some (.slice (some ⟨g, 0, none⟩) s.bs.length c) ∧ w2.frozen? ⟨m, 1, none⟩ = false) ∧ LeftK B w (w2.setCell ⟨m, 1, none⟩ (.slice (some ⟨g', 0, none⟩) (s.bs.length + 4 * n) c')) m (.slice (some ⟨g, 0, none⟩) s.bs.length c) { s with bs := s.bs ++ s.bs.drop (s.bs.length - 4 * n) }) := fun wx w2 g' c' hb ho f => by
    have hl : (s.bs ++ s.bs.drop (s.bs.length - 4 * n)).length = s.bs.length + 4 * n := by rw [List.length_append, List.length_drop]; omega
    obtain ⟨g1, g2⟩ := h.grown ((Fm.same hb).trans f) (by rw [hl]; exact ho)
    have hm2 : w2.heap[m]? = w.heap[m]? := (f.block m (Nat.lt_of_lt_of_le h.lt hb.size) h.ne).trans (hb.block m h.lt)
    obtain ⟨_, k1, _, _, kf⟩ := h.cells
    exact ⟨⟨by rw [World.cell?_of_block hm2]; exact k1, by rw [World.frozen?_of_block hm2]; exact kf 1⟩, _, g1, g2⟩
  have hwx : IntKind.i64.wrap (n : Int) = (n : Int) := by rw [IntKind.wrap_i64]; omega
  have hLb : s.bs.length + 4 * n ≤ 65536 := by omega
  clear h kc ok hon he b1 b2 b3 b4 b5 b6 hmo hrm hc hcc
  generalize s.bs.drop (s.bs.length - 4 * n) = D at *
  generalize c - (s.bs.length - 4 * n) = CC at *
  go_enter Try.func32, Try.ntmps32
  go_wp2_with (first | (go_at_call 50; refine HL.out.mono ?_; rintro e w1 ⟨rfl, hd1⟩))
  obtain ⟨-, k1, kf, -⟩ := HO.out _ hd1.below
  have HT1 := hidden (HT.out w1.drew (hd1.more 1))
  go_region_law (first | (refine step_appR (by rfl) _ _ (by rfl) B g s.bs.length c (4 * n) CC _ _ _ (by rfl) (by rfl) (HO.out _ hd2.out.below).1 hr2.out (by omega) (HO.out _ hd2.out.below).2.2.2 ?_; intro g5 c5 w5 ho5 f5; obtain ⟨⟨q0, qf⟩, l5⟩ := HST.out _ _ _ _ hd2.out.below ho5 f5.out; have G := hidden l5; clear l5 ho5 f5) | (go_simp; (with_reducible refine HT1.out.mono ?_); rintro e w2 ⟨p, rfl, hr2, hd2⟩; obtain ⟨-, k1', kf', -⟩ := HO.out _ hd2.out.below) | fail)
  all_goals (
    go_wp2
    go_ret
    exact ⟨rfl, G.out⟩)
theorem kDup_any (B m n : Nat) (v : Value) (s : Ks) (w : World) (h : KAt B w m v s) (hB : B ≤ w.heap.size) (ok : OkK s) (hn : n < 4294967296) :
    Calls Try.prog 32 #[.pointer (some ⟨m, 0, none⟩), .int .u32 n] w fun e w' => e = .returned (.int .i64 (dupE s n)) ∧ LeftK B w w' m v (dupS s n) := by
  unfold dupS
  by_cases he : dupE s n = 0
  · rw [if_pos he, he]
    obtain ⟨h1, h2⟩ := roomFor_zero he
    have hon : s.on = true := by
      cases ho : s.on with
      | true => rfl
      | false => rw [lack_off ho] at h1; cases h1
    refine kDup_good B m n v s w h hB ok hn he hon (Classical.byContradiction fun hc => ?_) h2
    rw [lack_few hon (by omega)] at h1
    cases h1
  · rw [if_neg he]
    refine (kDup_bad B m n v s w h ok hn he).mono ?_
    rintro e w' ⟨rfl, hd⟩
    exact ⟨rfl, LeftK.dr h hd⟩
end Go.Proofs.Ythhkennomnmjkaa
