/- Layer 15, the program: one stream more. -/
import Derived.Test.YtmohnopegacahaaS15h
namespace Go.Proofs.Ytmohnopegacahaa
open Go.RowKit
set_option maxHeartbeats 1000000
set_option maxRecDepth 100000
set_option linter.unusedVariables false

theorem infoP : (Try.prog.info? 76).map (fun i => (i.zero, i.size, i.bytes)) = some (some (.pointer none), 1, 8) := by kernel_rfl
theorem SBox.fm {w w' : World} {d : Sm} {T T' : Nat → Prop} (h : SBox w d) (f : Fm w w' T T') (hn : ¬ T d.k) : SBox w' d := by
  unfold SBox at h ⊢
  rw [f.block _ (Array.getElem?_eq_some_iff.1 h).1 hn]; exact h
/-- the row of streams is another one -/
theorem ShAt.grow {B m : Nat} {w w4 : World} {s : Sh} {v' : Value} {S' : List Sm} (h : ShAt B w m s) (f : Fm w w4 (fun k => s.sv.ownBlock = some k) (fun k => v'.ownBlock = some k)) (ho : w4.ownsRow B 76 1 v' S'.length (ptrsV S')) (hs : ∀ d ∈ S', B ≤ d.k ∧ SBox w d) :
    ShAt B (w4.setCell ⟨m, 3, none⟩ v') m { s with sv := v', S := S' } ∧ Fm w (w4.setCell ⟨m, 3, none⟩ v') (fun k => k = m ∨ s.sv.ownBlock = some k) (fun k => k = m ∨ v'.ownBlock = some k) := by
  have hX : ∀ k, s.sv.ownBlock = some k → tyAt w k = some 76 := fun k e => ty_row h.row e
  have hbx : w4.heap[m]? = some (.cells #[.int .i64 s.most, .map s.fm, .int .i64 s.last, s.sv] 70 (0, 0)) := by
    rw [f.block m h.lt (fun q => by have := hX m q; rw [ty_box h.box] at this; exact absurd this (by decide))]; exact h.box
  have f2 : Fm w (w4.setCell ⟨m, 3, none⟩ v') (fun k => k = m ∨ s.sv.ownBlock = some k) (fun k => k = m ∨ v'.ownBlock = some k) := (f.to (fun k e => Or.inr e) (fun k e => Or.elim e (fun q => Or.inl (Or.inl q)) (fun q => Or.inr q))).set m 3 _ (.inl rfl)
  have hY : ∀ k, (k = m ∨ s.sv.ownBlock = some k) → tyAt w k = some 76 ∨ tyAt w k = some 70 := by
    rintro k (rfl | e)
    · exact .inr (ty_box h.box)
    · exact .inl (hX k e)
  have no : ∀ k t, tyAt w k = some t → t ≠ 76 → t ≠ 70 → ¬ (k = m ∨ s.sv.ownBlock = some k) := by
    intro k t e1 e2 e3 q
    rcases hY k q with e | e <;> rw [e1] at e <;> simp at e
    · exact e2 e
    · exact e3 e
  refine ⟨⟨h.base, by rw [bkset hbx]; rfl, ?_, ?_, ?_, ?_, ?_⟩, f2⟩
  · exact ownsRow_setCell_other ho (by simpa using own_neE ho hbx (by decide)) _
  · intro d hd
    exact ⟨(hs d hd).1, (hs d hd).2.fm f2 (no _ _ (ty_box (hs d hd).2) (by decide) (by decide))⟩
  · intro d hd
    exact (h.fs d hd).fm f2 (no _ _ (ty_box (h.fs d hd).box) (by decide) (by decide)) (fun k e => no _ _ (ty_row (h.fs d hd).row e) (by decide) (by decide))
  · intro d hd
    exact (h.gs d hd).fm f2 (no _ _ (ty_box (h.gs d hd).box) (by decide) (by decide)) (fun k e => no _ _ (ty_row (h.gs d hd).row e) (by decide) (by decide))
  · exact h.mp.fm f2 (fun k e q => by
      rcases hY k q with e2 | e2 <;> rw [map_ty h.mp e] at e2 <;> cases e2)
/-- the last number is another one, and a stream that is none of its own has it -/
theorem ShAt.numb {B m : Nat} {w : World} {s : Sh} {d : Sm} (h : ShAt B w m s) (hd : SBox w d) (hk : ∀ e ∈ s.S, e.k ≠ d.k) (x : Int) :
    let w2 := (w.setCell ⟨m, 2, none⟩ (.int .i64 x)).setCell ⟨d.k, 0, none⟩ (.int .i64 x)
    ShAt B w2 m { s with last := x } ∧ SBox w2 { d with n := x } ∧ Fm w w2 (fun k => k = m ∨ k = d.k) (fun k => k = m ∨ k = d.k) := by
  intro w2
  have hne : d.k ≠ m := fun e => by have := ty_box hd; rw [e, ty_box h.box] at this; exact absurd this (by decide)
  have f0 : Fm w w (fun k => k = m ∨ k = d.k) (fun k => k = m ∨ k = d.k) := Fm.same (Below.refl _ _)
  have f2 : Fm w w2 (fun k => k = m ∨ k = d.k) (fun k => k = m ∨ k = d.k) := (f0.set m 2 _ (.inl rfl)).set d.k 0 _ (.inr rfl)
  have no : ∀ k t, tyAt w k = some t → t ≠ 80 → t ≠ 70 → ¬ (k = m ∨ k = d.k) := by
    rintro k t e1 e2 e3 (rfl | rfl)
    · rw [ty_box h.box] at e1; simp at e1; exact e3 e1.symm
    · rw [ty_box hd] at e1; simp at e1; exact e2 e1.symm
  have hd1 : SBox (w.setCell ⟨m, 2, none⟩ (.int .i64 x)) d := by
    unfold SBox at hd ⊢
    rw [heap_setCell_other _ _ _ _ hne]; exact hd
  refine ⟨⟨h.base, ?_, ?_, ?_, ?_, ?_, ?_⟩, hd1.set0 x, f2⟩
  · show ((w.setCell ⟨m, 2, none⟩ (.int .i64 x)).setCell ⟨d.k, 0, none⟩ (.int .i64 x)).heap[m]? = _
    rw [heap_setCell_other _ _ _ _ hne.symm, bkset h.box]; rfl
  · exact own_fm f2 h.row (fun k e => no k _ (ty_row h.row e) (by decide) (by decide))
  · intro e he
    refine ⟨(h.ss e he).1, (h.ss e he).2.fm f2 ?_⟩
    rintro (q | q)
    · have := ty_box (h.ss e he).2; rw [q, ty_box h.box] at this; exact absurd this (by decide)
    · exact hk e he q
  · intro e he
    exact (h.fs e he).fm f2 (no _ _ (ty_box (h.fs e he).box) (by decide) (by decide)) (fun k q => no _ _ (ty_row (h.fs e he).row q) (by decide) (by decide))
  · intro e he
    exact (h.gs e he).fm f2 (no _ _ (ty_box (h.gs e he).box) (by decide) (by decide)) (fun k q => no _ _ (ty_row (h.gs e he).row q) (by decide) (by decide))
  · exact h.mp.fm f2 (fun k e q => by
      have hm := map_ty h.mp e
      rcases q with rfl | rfl
      · rw [ty_box h.box] at hm; cases hm
      · rw [ty_box hd] at hm; cases hm)
def addS (s : Sh) (d : Sm) (v' : Value) : Sh := { s with last := s.last + 1, sv := v', S := s.S ++ [{ d with n := s.last + 1 }] }
set_option maxHeartbeats 4000000 in
theorem add_any {B m : Nat} {w : World} {s : Sh} {d : Sm} (h : ShAt B w m s) (ok : OkS s) (hB : B ≤ w.heap.size) (hd : SBox w d) (hdB : B ≤ d.k) (hk : ∀ e ∈ s.S, e.k ≠ d.k) (hl : s.last < 1000000) :
    Calls Try.prog 30 #[.pointer (some ⟨m, 0, none⟩), .pointer (some ⟨d.k, 0, none⟩)] w fun e w' => e = .returned (.int .i64 (s.last + 1)) ∧ Hid (∃ v', ShAt B w' m (addS s d v') ∧ Fm w w' (fun k => TS m s k ∨ k = d.k) (fun k => k = m ∨ k = d.k ∨ v'.ownBlock = some k)) := by
  obtain ⟨d0, d1, d2, d3, d5⟩ := h.cells
  obtain ⟨e0, e1, e2, e3, e4, e5, e6, e7⟩ := hd.cells
  obtain ⟨i0, hi, hz0, hz1, hz2⟩ := info_parts infoP
  have hl0 := ok.last0
  have hne : d.k ≠ m := fun e => by have := ty_box hd; rw [e, ty_box h.box] at this; exact absurd this (by decide)
  have q1 : IntKind.i64.wrap (s.last + 1) = s.last + 1 := by rw [IntKind.wrap_i64]; omega
  have hnm := h.numb hd hk (s.last + 1)
  have H2 : Hid (ShAt B ((w.setCell ⟨m, 2, none⟩ (.int .i64 (s.last + 1))).setCell ⟨d.k, 0, none⟩ (.int .i64 (s.last + 1))) m { s with last := s.last + 1 } ∧ SBox ((w.setCell ⟨m, 2, none⟩ (.int .i64 (s.last + 1))).setCell ⟨d.k, 0, none⟩ (.int .i64 (s.last + 1))) { d with n := s.last + 1 } ∧ Fm w ((w.setCell ⟨m, 2, none⟩ (.int .i64 (s.last + 1))).setCell ⟨d.k, 0, none⟩ (.int .i64 (s.last + 1))) (fun k => k = m ∨ k = d.k) (fun k => k = m ∨ k = d.k)) := hidden hnm
  have hfew := ok.few
  clear hnm h hd
  go_enter Try.func30, Try.ntmps30
  go_upto_region 3 with fail
  generalize (w.setCell ⟨m, 2, none⟩ (.int .i64 (s.last + 1))).setCell ⟨d.k, 0, none⟩ (.int .i64 (s.last + 1)) = w2 at *
  clear d0 d1 d2 d3 d5 e0 e1 e2 e3 e4 e5 e6 e7
  obtain ⟨d0, d1, d2, d3, d5⟩ := H2.out.1.cells
  have e0 := H2.out.2.1.cells.1
  have hb3 : Below w2.heap.size w2 (w2.alloc (.cells #[.pointer (some ⟨d.k, 0, none⟩)] 76)) := (Below.refl _ _).alloc (Nat.le_refl _) _
  have HOW : Hid ((w2.alloc (.cells #[.pointer (some ⟨d.k, 0, none⟩)] 76)).ownsRow B 76 1 s.sv s.S.length (ptrsV s.S)) := hidden (own_later H2.out.1.row hb3)
  have HBB : Hid (B ≤ (w2.alloc (.cells #[.pointer (some ⟨d.k, 0, none⟩)] 76)).heap.size) := hidden (Nat.le_trans (Nat.le_trans hB H2.out.2.2.size) hb3.size)
  have HNW : Hid (∀ j u, [Value.pointer (some ⟨d.k, 0, none⟩)][j]? = some u → (w2.alloc (.cells #[.pointer (some ⟨d.k, 0, none⟩)] 76)).cell? ((⟨w2.heap.size, 0, none⟩ : Addr).add j) = some u) := hidden (fun j u hj => by
    have hh := heap_alloc_new w2 (.cells #[.pointer (some ⟨d.k, 0, none⟩)] 76)
    cases j with
    | zero =>
      simp only [List.getElem?_cons_zero, Option.some.injEq] at hj
      subst hj
      unfold World.cell?
      rw [show ((⟨w2.heap.size, 0, none⟩ : Addr).add 0).block = w2.heap.size from rfl, hh]
      rfl
    | succ j => simp at hj)
  have HFI : Hid (∀ v' w4, w4.ownsRow B 76 1 v' (s.S.length + 1) (ptrsV s.S ++ [.pointer (some ⟨d.k, 0, none⟩)]) → (w2.alloc (.cells #[.pointer (some ⟨d.k, 0, none⟩)] 76)).grownBy w4 s.sv.ownBlock → (∀ k, v'.ownBlock = some k → s.sv.ownBlock = some k ∨ (w2.alloc (.cells #[.pointer (some ⟨d.k, 0, none⟩)] 76)).heap.size ≤ k) →
      w4.frozen? ⟨m, 3, none⟩ = false ∧ w4.cell? ⟨m, 3, none⟩ = some s.sv ∧ (w4.setCell ⟨m, 3, none⟩ v').cell? ⟨d.k, 0, none⟩ = some (.int .i64 (s.last + 1)) ∧ Hid (ShAt B (w4.setCell ⟨m, 3, none⟩ v') m (addS s d v') ∧ Fm w (w4.setCell ⟨m, 3, none⟩ v') (fun k => TS m s k ∨ k = d.k) (fun k => k = m ∨ k = d.k ∨ v'.ownBlock = some k))) := hidden (fun v' w4 ho hg hat => by
    have f : Fm w2 w4 (fun k => s.sv.ownBlock = some k) (fun k => v'.ownBlock = some k) := (Fm.same hb3).trans (fm_grown hg hat)
    have hbx : w4.heap[m]? = w2.heap[m]? := f.block m H2.out.1.lt (fun q => by
      have q1 := ty_row H2.out.1.row q
      rw [ty_box H2.out.1.box] at q1
      exact absurd q1 (by decide))
    obtain ⟨g1, g2⟩ := ShAt.grow (S' := s.S ++ [{ d with n := s.last + 1 }]) H2.out.1 f (by rw [List.length_append]; simpa [ptrsV] using ho) (fun x hx => by
      rcases List.mem_append.1 hx with q | q
      · exact H2.out.1.ss x q
      · rw [List.mem_singleton] at q
        subst q
        exact ⟨hdB, H2.out.2.1⟩)
    refine ⟨by rw [World.frozen?_of_block hbx]; exact d5 3, by rw [World.cell?_of_block hbx]; exact d3, (g1.ss { d with n := s.last + 1 } (by simp)).2.cells.1, hidden ⟨g1, ?_⟩⟩
    have fa : Fm w w2 (fun k => TS m s k ∨ k = d.k) (fun k => TS m s k ∨ k = d.k) := H2.out.2.2.to (fun k e => Or.elim e (fun q => .inl (.inl q)) (fun q => .inr q)) (fun k e => .inl e)
    refine fa.trans (g2.to (fun k e => Or.elim e (fun q => .inl (.inl q)) (fun q => .inl (.inr (.inr (.inl q))))) (fun k e => ?_))
    rcases e with e | e | e
    · exact .inr (.inl e)
    · exact .inl (.inr e)
    · exact .inr (.inr e))
  have HN : Hid (s.S.length ≤ 64) := hidden hfew
  clear hk hB hfew
  go_wp2_with (first | (at_builtin; refine wpList_append_at rfl _ _ 68 rfl B 76 i0 (.pointer none) 1 8 Try.underlying68 hi hz0 hz1 hz2 rfl (by decide) s.sv s.S.length (ptrsV s.S) rfl HOW.out ⟨w2.heap.size, 0, none⟩ 1 1 [.pointer (some ⟨d.k, 0, none⟩)] rfl rfl HNW.out (by intro u hu; simp at hu; subst hu; rfl) (by have := HN.out; unfold maxLen; omega) (by have := HN.out; omega) HBB.out (by decide) ?_; intro v4 w4 ho4 hg4 hat4; obtain ⟨a4, c4, e4⟩ := own_slice ho4; subst e4; obtain ⟨t1, t2, t3, H5⟩ := HFI.out _ _ ho4 hg4 hat4.out; clear ho4 hg4 hat4) | fail)
  go_ret
  exact ⟨rfl, hidden ⟨_, H5.out⟩⟩
end Go.Proofs.Ytmohnopegacahaa
