/- Layer 15, the program: a stream writes a character. -/
import Derived.Test.YtmohnopegacahaaS15d
import Derived.Test.YtmohnopegacahaaS15e
namespace Go.Proofs.Ytmohnopegacahaa
open Go.RowKit
set_option maxHeartbeats 1000000
set_option maxRecDepth 100000
set_option linter.unusedVariables false

/-- what a ground has behind a character that was put -/
def gput (f wide : Bool) (zs : List Int) (k : Nat) (c : Int) : List Int := if f then fpL zs wide k c else zs.set k c
theorem asW_bd (c : Int) (wide : Bool) (h : 0 ≤ c ∧ c ≤ 4294967295) : 0 ≤ asW c wide ∧ asW c wide ≤ 4294967295 := by
  unfold asW
  split <;> omega
/-- a stream and what it lies on, behind a character that was written -/
def WrR (B : Nat) (w : World) (d : Sm) (v : Value) (zs : List Int) (w' : World) : Prop := ∃ v', GAt B w' d.f d.g v' zs ∧ SBox w' d ∧ Fm w w' (fun k => k = d.k ∨ TF d.g v k) (fun k => k = d.k ∨ TF d.g v' k)
theorem ground_ne {B : Nat} {w : World} {v : Value} {zs : List Int} {d : Sm} (hs : SBox w d) (hg : GAt B w d.f d.g v zs) : ¬ TF d.g v d.k := by
  unfold GAt at hg
  unfold SBox at hs
  rcases (show d.f = false ∨ d.f = true by cases d.f <;> simp) with hf | hf
  · rw [hf] at hg
    have hg : BAt B w d.g v zs := hg
    rintro (e | e)
    · have := hg.box; rw [← e, hs] at this; simp at this
    · exact own_neE hg.row hs (by decide) e
  · rw [hf] at hg
    have hg : FAt B w d.g v zs := hg
    rintro (e | e)
    · have := hg.box; rw [← e, hs] at this; simp at this
    · exact own_neE hg.row hs (by decide) e
theorem gput_any {B : Nat} {w : World} {v : Value} {zs : List Int} (d : Sm) (hs : SBox w d) (hg : GAt B w d.f d.g v zs) (hB : B ≤ w.heap.size) (hp : d.pl ≤ gsz d.f d.wd zs) (hr : (d.pl + 1) * wdN d.wd ≤ 4000000) (c : Int) (hc : 0 ≤ c ∧ c ≤ 4294967295) :
    (d.f = true → Calls Try.prog 102 #[.pointer (some ⟨d.g, 0, none⟩), .int .i64 d.pl, .bool d.wd, .int .u32 c] w fun e w' => e = .returned (.tuple #[]) ∧ Hid (WrR B w d v (gput d.f d.wd zs d.pl c) w')) ∧
    (d.f = false → Calls Try.prog 108 #[.pointer (some ⟨d.g, 0, none⟩), .int .i64 d.pl, .bool d.wd, .int .u32 c] w fun e w' => e = .returned (.tuple #[]) ∧ Hid (WrR B w d v (gput d.f d.wd zs d.pl c) w')) := by
  have hne := ground_ne hs hg
  constructor
  · intro hf
    have hg' : FAt B w d.g v zs := by unfold GAt at hg; rw [hf] at hg; exact hg
    have hw : 0 < wdN d.wd := by cases d.wd <;> decide
    have hk : d.pl * wdN d.wd ≤ zs.length := by
      rw [hf] at hp
      exact (Nat.le_div_iff_mul_le hw).1 (show d.pl ≤ zs.length / wdN d.wd from hp)
    refine (fput_any hg' hB d.wd d.pl hk hr c).mono ?_
    rintro e w' ⟨rfl, v', h1, f⟩
    refine ⟨rfl, hidden ⟨v', ?_, ?_, f.to (fun k e => .inr e) (fun k e => (Or.elim e (fun q => .inl (.inl q)) (fun q => .inr q)))⟩⟩
    · unfold GAt gput; rw [hf]; exact h1
    · unfold SBox at hs ⊢; rw [f.block d.k (Array.getElem?_eq_some_iff.1 hs).1 hne]; exact hs
  · intro hf
    have hg' : BAt B w d.g v zs := by unfold GAt at hg; rw [hf] at hg; exact hg
    refine (bput_any hg' d.wd d.pl c hc).mono ?_
    rintro e w' ⟨rfl, h1, f⟩
    refine ⟨rfl, hidden ⟨v, ?_, ?_, f.to (fun k e => .inr e) (fun k e => .inl e)⟩⟩
    · unfold GAt gput; rw [hf]; exact h1
    · unfold SBox at hs ⊢; rw [f.block d.k (Array.getElem?_eq_some_iff.1 hs).1 hne]; exact hs
theorem WrR.end_ {B : Nat} {w w5 w6 : World} {v : Value} {zs : List Int} {d : Sm} (h : WrR B w d v zs w5) (hd : Dr w5 w6) (p : Nat) (q : Int) :
    WrR B w { d with pl := p, wr := q } v zs ((w6.setCell ⟨d.k, 4, none⟩ (.int .i64 p)).setCell ⟨d.k, 6, none⟩ (.int .u32 q)) := by
  obtain ⟨v', h1, h2, f⟩ := h
  have h3 := (h2.later hd.below).set4 p
  have h4 := h3.set6 q
  have f2 : Fm w w6 (fun k => k = d.k ∨ TF d.g v k) (fun k => k = d.k ∨ TF d.g v' k) := f.trans (Dr.fm hd)
  refine ⟨v', ?_, h4, (f2.set d.k 4 _ (.inl rfl)).set d.k 6 _ (.inl rfl)⟩
  have hne := ground_ne (h2.later hd.below) (h1.later hd.below)
  have f3 : Fm w6 ((w6.setCell ⟨d.k, 4, none⟩ (.int .i64 p)).setCell ⟨d.k, 6, none⟩ (.int .u32 q)) (fun k => k = d.k) (fun k => k = d.k) := by
    have f0 : Fm w6 w6 (fun k => k = d.k) (fun k => k = d.k) := Fm.same (Below.refl _ _)
    exact (f0.set d.k 4 _ rfl).set d.k 6 _ rfl
  have hg := h1.later hd.below
  unfold GAt at hg ⊢
  rcases (show d.f = false ∨ d.f = true by cases d.f <;> simp) with hf | hf
  · simp only [hf] at hg ⊢
    exact BAt.fm hg f3 (fun e => hne (.inl e.symm)) (fun k e e2 => hne (.inr (by rw [← e2]; exact e)))
  · simp only [hf] at hg ⊢
    exact FAt.fm hg f3 (fun e => hne (.inl e.symm)) (fun k e e2 => hne (.inr (by rw [← e2]; exact e)))
theorem WrR.drew {B : Nat} {w w5 : World} {v : Value} {zs : List Int} {d : Sm} (h : WrR B w d v zs w5) : WrR B w d v zs w5.drew := by
  obtain ⟨v', h1, h2, f⟩ := h
  exact ⟨v', h1.later ((Below.refl _ _).drew), h2.later ((Below.refl _ _).drew), f.trans (Fm.same ((Below.refl _ _).drew))⟩
set_option maxHeartbeats 4000000 in
theorem owrite_any {B : Nat} {w : World} {v : Value} {zs : List Int} (d : Sm) (hs : SBox w d) (hg : GAt B w d.f d.g v zs) (hB : B ≤ w.heap.size) (hp : d.pl ≤ gsz d.f d.wd zs) (hr : (d.pl + 1) * wdN d.wd ≤ 4000000) (c : Int) (hc : 0 ≤ c ∧ c ≤ 4294967295) :
    Calls Try.prog 37 #[.pointer (some ⟨d.k, 0, none⟩), .int .u32 c] w fun e w' => e = .returned (.tuple #[]) ∧ Hid (WrR B w { d with pl := min (d.pl + 1) (gsz d.f d.wd (gput d.f d.wd zs d.pl (asW c d.wd))), wr := up32 d.wr } v (gput d.f d.wd zs d.pl (asW c d.wd)) w') := by
  obtain ⟨c0, c1, c2, c3, c4, c5, c6, z0⟩ := hs.cells
  have hb : Below w.heap.size w w.drew := (Below.refl _ _).drew
  have HAW := hidden (fun w1 => asWritten_any c d.wd w1)
  have HPT := hidden (gput_any (w := w.drew) d (hs.later hb) (hg.later hb) (Nat.le_trans hB hb.size) hp hr (asW c d.wd) (asW_bd c d.wd hc))
  have hpl : d.pl ≤ 4000000 := Nat.le_trans hp (hg.few d.wd)
  have HW1 : Hid (∀ w5, WrR B w.drew d v (gput d.f d.wd zs d.pl (asW c d.wd)) w5 → WrR B w d v (gput d.f d.wd zs d.pl (asW c d.wd)) w5) := hidden (fun w5 h => by
    obtain ⟨v', h1, h2, f⟩ := h
    exact ⟨v', h1, h2, (Fm.same hb).trans f⟩)
  generalize hZ : gput d.f d.wd zs d.pl (asW c d.wd) = zz at *
  have HSZ : Hid (∀ w5, WrR B w d v zz w5 → Calls Try.prog 29 #[.pointer (some ⟨d.k, 0, none⟩)] w5 fun e w' => e = .returned (.int .i64 (gsz d.f d.wd zz : Nat)) ∧ Dr w5 w') := hidden (fun w5 h => by
    obtain ⟨v', h1, h2, f⟩ := h
    exact osize_any d h2 h1)
  have HCC : Hid (∀ w5 w6, WrR B w d v zz w5 → Dr w5 w6 → w6.cell? ⟨d.k, 4, none⟩ = some (.int .i64 d.pl) ∧ w6.cell? ⟨d.k, 6, none⟩ = some (.int .u32 d.wr) ∧ (∀ j, w6.frozen? ⟨d.k, j, none⟩ = false)) := hidden (fun w5 w6 h hd => by
    obtain ⟨v', h1, h2, f⟩ := h
    obtain ⟨e0, e1, e2, e3, e4, e5, e6, e7⟩ := (h2.later hd.below).cells
    exact ⟨e4, e6, e7⟩)
  have HC1 : Hid (∀ w5, WrR B w d v zz w5 → w5.cell? ⟨d.k, 1, none⟩ = some (onV d.f d.g) ∧ w5.cell? ⟨d.k, 3, none⟩ = some (.bool d.wd) ∧ w5.cell? ⟨d.k, 4, none⟩ = some (.int .i64 d.pl)) := hidden (fun w5 h => by
    obtain ⟨v', h1, h2, f⟩ := h
    obtain ⟨e0, e1, e2, e3, e4, e5, e6, e7⟩ := h2.cells
    exact ⟨e1, e3, e4⟩)
  have HEND : Hid (∀ w5 w6 (p : Nat) (x : Int), WrR B w d v zz w5 → Dr w5 w6 → x = (p : Int) → WrR B w { d with pl := p, wr := up32 d.wr } v zz ((w6.setCell ⟨d.k, 4, none⟩ (.int .i64 x)).setCell ⟨d.k, 6, none⟩ (.int .u32 (up32 d.wr)))) := hidden (fun w5 w6 p x h hd e => by subst e; exact h.end_ hd p _)
  have l2 : IntKind.i64.wrap ((d.pl : Int) + 1) = (d.pl : Int) + 1 := by rw [IntKind.wrap_i64]; omega
  have l3 := up_wrap d.wr
  clear hs hg hb hZ c0 c2 c5 c6 hp hr hc hB
  generalize gsz d.f d.wd zz = N at *
  generalize asW c d.wd = V at *
  generalize up32 d.wr = R1 at *
  rcases (show d.f = false ∨ d.f = true by cases d.f <;> simp) with hf | hf
  · have HPT2 := hidden (HPT.out.2 hf)
    have HF := hidden hf
    rw [hf] at c1
    have HC2 : Hid (∀ w5, WrR B w d v zz w5 → w5.cell? ⟨d.k, 1, none⟩ = some (.iface 95 (.pointer (some ⟨d.g, 0, none⟩))) ∧ w5.cell? ⟨d.k, 3, none⟩ = some (.bool d.wd) ∧ w5.cell? ⟨d.k, 4, none⟩ = some (.int .i64 d.pl)) := hidden (fun w5 h => by
      obtain ⟨e1, e3, e4⟩ := HC1.out w5 h
      rw [hf] at e1
      exact ⟨e1, e3, e4⟩)
    rw [show onV false d.g = .iface 95 (.pointer (some ⟨d.g, 0, none⟩)) from rfl] at c1
    clear HPT HC1 hf
    go_enter Try.func37, Try.ntmps37
    go_upto_region 0 with fail
    go_region_held3 (fun w' => w'.cell? ⟨d.k, 1, none⟩ = some (.iface 95 (.pointer (some ⟨d.g, 0, none⟩))) ∧ w'.cell? ⟨d.k, 3, none⟩ = some (.bool d.wd) ∧ w'.cell? ⟨d.k, 4, none⟩ = some (.int .i64 d.pl)) (first | assumption | exact ⟨by assumption, by assumption, by assumption⟩ | go_keep) (first | (go_at_call 45; refine (HAW.out _).mono ?_; rintro e w4 ⟨rfl, e2⟩; rw [e2]; clear e2) | (go_at_call 108; refine HPT2.out.mono ?_; rintro e w5 ⟨rfl, H5⟩; replace H5 := hidden (HW1.out _ H5.out); obtain ⟨i1, i3, i4⟩ := HC2.out _ H5.out) | fail)
    all_goals (
      go_upto_region 1 with fail
      have HSZ1 := hidden (HSZ.out w5.drew H5.out.drew)
      obtain ⟨k4, k6, k7⟩ := HCC.out _ w5 H5.out ⟨0, rfl⟩
      go_region_law (first | (go_simp; (with_reducible refine HSZ1.out.mono ?_); rintro e w6 ⟨rfl, hd⟩; obtain ⟨n4, n6, n7⟩ := HCC.out _ _ H5.out.drew hd; have HD := hidden hd; clear hd) | fail)
      all_goals (try go_wp2)
      all_goals refine bodyPost_end (v := .tuple #[]) (by simp [results, Try.results37, go_sem]) rfl ⟨rfl, hidden (HEND.out _ _ (min (d.pl + 1) N) _ H5.out.drew HD.out ?_)⟩
      all_goals first | omega | (push_cast; omega))
  · have HPT2 := hidden (HPT.out.1 hf)
    have HF := hidden hf
    rw [hf] at c1
    have HC2 : Hid (∀ w5, WrR B w d v zz w5 → w5.cell? ⟨d.k, 1, none⟩ = some (.iface 72 (.pointer (some ⟨d.g, 0, none⟩))) ∧ w5.cell? ⟨d.k, 3, none⟩ = some (.bool d.wd) ∧ w5.cell? ⟨d.k, 4, none⟩ = some (.int .i64 d.pl)) := hidden (fun w5 h => by
      obtain ⟨e1, e3, e4⟩ := HC1.out w5 h
      rw [hf] at e1
      exact ⟨e1, e3, e4⟩)
    rw [show onV true d.g = .iface 72 (.pointer (some ⟨d.g, 0, none⟩)) from rfl] at c1
    clear HPT HC1 hf
    go_enter Try.func37, Try.ntmps37
    go_upto_region 0 with fail
    go_region_held3 (fun w' => w'.cell? ⟨d.k, 1, none⟩ = some (.iface 72 (.pointer (some ⟨d.g, 0, none⟩))) ∧ w'.cell? ⟨d.k, 3, none⟩ = some (.bool d.wd) ∧ w'.cell? ⟨d.k, 4, none⟩ = some (.int .i64 d.pl)) (first | assumption | exact ⟨by assumption, by assumption, by assumption⟩ | go_keep) (first | (go_at_call 45; refine (HAW.out _).mono ?_; rintro e w4 ⟨rfl, e2⟩; rw [e2]; clear e2) | (go_at_call 102; refine HPT2.out.mono ?_; rintro e w5 ⟨rfl, H5⟩; replace H5 := hidden (HW1.out _ H5.out); obtain ⟨i1, i3, i4⟩ := HC2.out _ H5.out) | fail)
    all_goals (
      go_upto_region 1 with fail
      have HSZ1 := hidden (HSZ.out w5.drew H5.out.drew)
      obtain ⟨k4, k6, k7⟩ := HCC.out _ w5 H5.out ⟨0, rfl⟩
      go_region_law (first | (go_simp; (with_reducible refine HSZ1.out.mono ?_); rintro e w6 ⟨rfl, hd⟩; obtain ⟨n4, n6, n7⟩ := HCC.out _ _ H5.out.drew hd; have HD := hidden hd; clear hd) | fail)
      all_goals (try go_wp2)
      all_goals refine bodyPost_end (v := .tuple #[]) (by simp [results, Try.results37, go_sem]) rfl ⟨rfl, hidden (HEND.out _ _ (min (d.pl + 1) N) _ H5.out.drew HD.out ?_)⟩
      all_goals first | omega | (push_cast; omega))
end Go.Proofs.Ytmohnopegacahaa
