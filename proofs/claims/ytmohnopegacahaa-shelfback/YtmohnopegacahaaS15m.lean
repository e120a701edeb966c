/- Layer 15, the program: Close. -/
import Derived.Test.YtmohnopegacahaaS15l
import Derived.Test.YtmohnopegacahaaS15i
namespace Go.Proofs.Ytmohnopegacahaa
open Go.RowKit
set_option maxHeartbeats 1000000
set_option maxRecDepth 100000
set_option linter.unusedVariables false

def closeS (s : Sh) (i : Nat) (v' : Value) : Sh := { s with sv := v', S := s.S.eraseIdx i }
/-- what Close hands back of a stream's ground -/
def LeftV (s : Sh) (d : Sm) (vv : Value) : Prop := (d.f = true ∧ vv = .slice none 0 0) ∨ (d.f = false ∧ ∃ g ∈ s.G, g.b = d.g ∧ g.v = vv)
def ClR (B : Nat) (w : World) (m : Nat) (s : Sh) (i : Nat) (w' : World) : Prop := ∃ v', ShAt B w' m (closeS s i v') ∧ Fm w w' (TS m s) (TS m (closeS s i v'))
theorem ClR.drew {B m i : Nat} {w w' : World} {s : Sh} (h : ClR B w m s i w') : ClR B w m s i w'.drew := by
  obtain ⟨v', h1, h2⟩ := h
  exact ⟨v', h1.later ((Below.refl _ _).drew), h2.trans (Fm.same ((Below.refl _ _).drew))⟩
theorem vv_slice {B m : Nat} {w : World} {s : Sh} {d : Sm} {vv : Value} (h : ShAt B w m s) (hv : LeftV s d vv) : ∃ a n c, vv = .slice a n c := by
  rcases hv with ⟨_, rfl⟩ | ⟨_, g, hg, _, rfl⟩
  · exact ⟨none, 0, 0, rfl⟩
  · obtain ⟨a, c, e⟩ := own_slice (h.gs g hg).row
    exact ⟨a, _, c, e⟩
set_option maxHeartbeats 4000000 in
theorem close_some {B m : Nat} {s : Sh} {w : World} (h : ShAt B w m s) (ok : OkS s) (i : Nat) (hi : i < s.S.length) (x : Int) (hx : s.S[i].n = x) (vv : Value) (hv : LeftV s s.S[i] vv) :
    Calls Try.prog 13 #[.pointer (some ⟨m, 0, none⟩), .int .i64 x] w fun e w' => e = .returned (.tuple #[.int .u32 s.S[i].rd, .int .u32 s.S[i].wr, vv, .int .i64 0]) ∧ Hid (ClR B w m s i w') := by
  have HA := hidden (at_some h ok i hi x hx)
  obtain ⟨va, vn, vc, hvv⟩ := vv_slice h hv
  rcases h.row.2 with ⟨_, h0⟩ | ⟨g, c, cur, hsv, _⟩
  · omega
  have hsi := fun w1 (hb : Below w.heap.size w w1) => ((h.later hb).ss _ (List.getElem_mem hi)).2
  have hgb : B ≤ g ∧ g < w.heap.size := row_lt h.row (by rw [hsv]; rfl)
  have hsk : ∀ j (hj : j < s.S.length), j ≠ i → s.S[j].k ≠ s.S[i].k := fun j hj hne => by
    rcases (show j < i ∨ i < j by omega) with q | q
    · exact List.pairwise_iff_getElem.1 ok.sk j i hj hi q
    · exact fun e2 => List.pairwise_iff_getElem.1 ok.sk i j hi hj q e2.symm
  have HDL : Hid (∀ w2, Below w.heap.size w w2 → Calls Try.prog 32 #[.slice (some ⟨g, 0, none⟩) s.S.length c, .func (.func 33) #[] #[.pointer (some ⟨w2.heap.size, 0, none⟩)]] (w2.alloc (.cells #[.pointer (some ⟨s.S[i].k, 0, none⟩)] 76)) fun e w4 => ∃ N' : Nat, e = .returned (.slice (some ⟨g, 0, none⟩) N' c) ∧ Hid (QAt w4 w2.heap.size s.S[i].k ∧ SBox w4 s.S[i] ∧ w4.cell? ⟨m, 3, none⟩ = some s.sv ∧ (∀ j, w4.frozen? ⟨m, j, none⟩ = false)) ∧
      Hid (ClR B w m s i (w4.setCell ⟨m, 3, none⟩ (.slice (some ⟨g, 0, none⟩) N' c)) ∧ QAt (w4.setCell ⟨m, 3, none⟩ (.slice (some ⟨g, 0, none⟩) N' c)) w2.heap.size s.S[i].k ∧ SBox (w4.setCell ⟨m, 3, none⟩ (.slice (some ⟨g, 0, none⟩) N' c)) s.S[i])) := hidden (fun w2 hb => by
    have hb3 : Below w2.heap.size w2 (w2.alloc (.cells #[.pointer (some ⟨s.S[i].k, 0, none⟩)] 76)) := (Below.refl _ _).alloc (Nat.le_refl _) _
    have hb4 := hb.trans (hb3.mono hb.size)
    have h3 := h.later hb4
    have hq : QAt (w2.alloc (.cells #[.pointer (some ⟨s.S[i].k, 0, none⟩)] 76)) w2.heap.size s.S[i].k := heap_alloc_new _ _
    have hqg : w2.heap.size ≠ g := by have := hb.size; omega
    have hqm : w2.heap.size ≠ m := by have := hb.size; have := h.lt; omega
    have hr := h3.row
    rw [hsv] at hr
    generalize w2.alloc (.cells #[.pointer (some ⟨s.S[i].k, 0, none⟩)] 76) = w3 at *
    generalize w2.heap.size = Q at *
    refine (delf_any hr hq hqg (fun d hd => (h3.ss d hd).2.isS) hi rfl hsk (by have := ok.few; omega)).mono ?_
    rintro e w4 ⟨rfl, r1, r2⟩
    have f : Fm w3 w4 (fun k => s.sv.ownBlock = some k) (fun k => (Value.slice (some ⟨g, 0, none⟩) (s.S.eraseIdx i).length c).ownBlock = some k) := r2.to (fun k e => by rw [hsv, e]; rfl) (fun k e => .inr (by simp only [Value.ownBlock, Option.some.injEq] at e; exact e.symm))
    obtain ⟨g1, g2⟩ := ShAt.grow (S' := s.S.eraseIdx i) h3 f r1 (fun d hd => h3.ss d (List.mem_of_mem_eraseIdx hd))
    have hmt : m ≠ g := fun e => own_neE h3.row h3.box (by decide) (by rw [hsv, e]; rfl)
    have hbm : w4.heap[m]? = w3.heap[m]? := r2.block m h3.lt hmt
    have hs3 := (h3.ss _ (List.getElem_mem hi)).2
    have hkg : s.S[i].k ≠ g := fun e => own_neE h3.row hs3 (by decide) (by rw [hsv, e]; rfl)
    have hkm : s.S[i].k ≠ m := fun e => by have := ty_box hs3; rw [e, ty_box h3.box] at this; exact absurd this (by decide)
    have q4 : QAt w4 Q s.S[i].k := by unfold QAt at hq ⊢; rw [r2.block Q (Array.getElem?_eq_some_iff.1 hq).1 hqg]; exact hq
    have s4 : SBox w4 s.S[i] := hs3.fm r2 hkg
    refine ⟨_, rfl, hidden ⟨q4, s4, by rw [World.cell?_of_block hbm]; exact h3.cells.2.2.2.1, fun j => by rw [World.frozen?_of_block hbm]; exact h3.cells.2.2.2.2 j⟩, hidden ⟨⟨_, g1, ?_⟩, ?_, ?_⟩⟩
    · refine (Fm.same hb4).trans (g2.to (fun k e => Or.elim e (fun q => .inl q) (fun q => .inr (.inr (.inl q)))) (fun k e => .inl ?_))
      rcases e with e | e | e | ⟨d, hd, e⟩ | e | e
      · exact .inl e
      · exact .inr (.inl e)
      · exact .inr (.inr (.inl (by rw [hsv]; exact e)))
      · exact .inr (.inr (.inr (.inl ⟨d, List.mem_of_mem_eraseIdx hd, e⟩)))
      · exact .inr (.inr (.inr (.inr (.inl e))))
      · exact .inr (.inr (.inr (.inr (.inr e))))
    · unfold QAt at q4 ⊢; rw [heap_setCell_other _ _ _ _ hqm]; exact q4
    · unfold SBox at s4 ⊢; rw [heap_setCell_other _ _ _ _ hkm]; exact s4)
  have HLF : Hid (∀ w5, ClR B w m s i w5 → SBox w5 s.S[i] → Calls Try.prog 34 #[.pointer (some ⟨s.S[i].k, 0, none⟩)] w5 fun e w' => e = .returned (.slice va vn vc) ∧ w' = w5) := hidden (fun w5 hc hs => by
    rw [← hvv]
    obtain ⟨v', h5, _⟩ := hc
    rcases hv with ⟨hf, rfl⟩ | ⟨hf, gg, hg, e1, rfl⟩
    · exact left_file _ w5 hs hf
    · exact left_buf _ hs hf (by rw [← e1]; exact h5.gs gg hg))
  have HC5 : Hid (∀ w2, Below w.heap.size w w2 → (w2.alloc (.cells #[.pointer (some ⟨s.S[i].k, 0, none⟩)] 76)).cell? ⟨m, 3, none⟩ = some (.slice (some ⟨g, 0, none⟩) s.S.length c)) := hidden (fun w2 hb => by
    have hb3 : Below w2.heap.size w2 (w2.alloc (.cells #[.pointer (some ⟨s.S[i].k, 0, none⟩)] 76)) := (Below.refl _ _).alloc (Nat.le_refl _) _
    have := (h.later (hb.trans (hb3.mono hb.size))).cells.2.2.2.1
    rw [hsv] at this
    exact this)
  have HQC : Hid (∀ w5 Q, QAt w5 Q s.S[i].k → SBox w5 s.S[i] → w5.cell? ⟨Q, 0, none⟩ = some (.pointer (some ⟨s.S[i].k, 0, none⟩)) ∧ w5.cell? ⟨s.S[i].k, 5, none⟩ = some (.int .u32 s.S[i].rd) ∧ w5.cell? ⟨s.S[i].k, 6, none⟩ = some (.int .u32 s.S[i].wr)) := hidden (fun w5 Q q1 q2 => ⟨by unfold QAt at q1; simp [World.cell?, q1], q2.cells.2.2.2.2.2.1, q2.cells.2.2.2.2.2.2.1⟩)
  rw [hvv]
  have HM : Hid (m < w.heap.size) := hidden h.lt
  clear h ok hx hv hsi hgb hsk hvv
  generalize s.S[i].k = KK at *
  generalize s.S[i].rd = RD at *
  generalize s.S[i].wr = WR at *
  go_enter Try.func13, Try.ntmps13
  go_upto_region 2 with (first | (go_at_call 31; refine HA.out.mono ?_; rintro e w2 ⟨rfl, hb2⟩; have HB2 := hidden hb2; clear hb2) | fail)
  have HDL2 := hidden (HDL.out w2 HB2.out)
  have c3 := HC5.out w2 HB2.out
  clear HDL HC5 HA
  generalize w2.alloc (.cells #[.pointer (some ⟨KK, 0, none⟩)] 76) = w3 at *
  generalize w2.heap.size = Q at *
  go_upto_region 5 with (first | (go_at_call 32; refine HDL2.out.mono ?_; rintro e w4 ⟨N', rfl, H4, H5⟩; have t3 := H4.out.2.2.1; have tz := H4.out.2.2.2 3) | fail)
  generalize w4.setCell ⟨m, 3, none⟩ (.slice (some ⟨g, 0, none⟩) N' c) = w5 at *
  have hbd : Below w5.heap.size w5 w5.drew := (Below.refl _ _).drew
  obtain ⟨r0, r1, r2⟩ := HQC.out w5 Q H5.out.2.1 H5.out.2.2
  have HLF2 := hidden (HLF.out w5.drew H5.out.1.drew (H5.out.2.2.later hbd))
  clear HDL2 HLF H4 c3
  go_region_held3 (fun w' => w'.cell? ⟨Q, 0, none⟩ = some (.pointer (some ⟨KK, 0, none⟩)) ∧ w'.cell? ⟨KK, 5, none⟩ = some (.int .u32 RD) ∧ w'.cell? ⟨KK, 6, none⟩ = some (.int .u32 WR)) (first | assumption | exact ⟨by assumption, by assumption, by assumption⟩ | go_keep) (first | (go_at_call 34; refine HLF2.out.mono ?_; rintro e w6 ⟨rfl, e2⟩; rw [e2]; clear e2) | fail)
  all_goals (try go_wp2)
  all_goals refine bodyPost_ret (v := .tuple #[.int .u32 RD, .int .u32 WR, .slice va vn vc, .int .i64 0]) (by simp [results, Try.results13, go_sem]) rfl ⟨rfl, hidden H5.out.1.drew⟩
theorem close_none {B m : Nat} {s : Sh} {w : World} (h : ShAt B w m s) (ok : OkS s) (x : Int) (hx : ∀ d ∈ s.S, d.n ≠ x) :
    Calls Try.prog 13 #[.pointer (some ⟨m, 0, none⟩), .int .i64 x] w fun e w' => e = .returned (.tuple #[.int .u32 0, .int .u32 0, .slice none 0 0, .int .i64 5]) ∧ Below w.heap.size w w' := by
  have HA := hidden (at_none h ok x hx)
  clear h ok hx
  go_enter Try.func13, Try.ntmps13
  go_wp2_with (first | (go_at_call 31; refine HA.out.mono ?_; rintro e w2 ⟨rfl, hb2⟩; have HB2 := hidden hb2; clear hb2) | fail)
  refine bodyPost_ret (v := .tuple #[.int .u32 0, .int .u32 0, .slice none 0 0, .int .i64 5]) (by simp [results, Try.results13, go_sem]) rfl ⟨rfl, ?_⟩
  exact HB2.out.alloc HB2.out.size _
end Go.Proofs.Ytmohnopegacahaa
