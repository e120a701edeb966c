/- Layer 14, the program: where the children of a pair lie. -/
import Derived.Test.YtilfgbcbodjegaaP14i
namespace Go.Proofs.Ytilfgbcbodjegaa
open Go.RowKit
set_option maxHeartbeats 1000000
set_option maxRecDepth 100000
set_option linter.unusedVariables false

structure R4 where
  x : Int
  y : Int
  w : Int
  h : Int
def r4A (r : R4) : Value := .agg #[.int .i64 r.x, .int .i64 r.y, .int .i64 r.w, .int .i64 r.h]
structure R4Ok (r : R4) : Prop where
  x0 : 0 ≤ r.x
  y0 : 0 ≤ r.y
  w0 : 0 ≤ r.w
  h0 : 0 ≤ r.h
  xw : r.x + r.w ≤ 1000
  yh : r.y + r.h ≤ 1000
/-- the children's parts of r, parted at f -/
def fstR (d : Wd) (r : R4) (f : Int) : R4 := if d.m % 4 < 2 then ⟨r.x, r.y, f, r.h⟩ else ⟨r.x, r.y, r.w, f⟩
def sndR (d : Wd) (r : R4) (f : Int) : R4 := if d.m % 4 < 2 then ⟨r.x + f, r.y, r.w - f, r.h⟩ else ⟨r.x, r.y + f, r.w, r.h - f⟩
/-- how many are parted -/
def lenR (d : Wd) (r : R4) : Int := if d.m % 4 < 2 then r.w else r.h
def r4V (r : R4) : Array Value := #[.int .i64 r.x, .int .i64 r.y, .int .i64 r.w, .int .i64 r.h]
/-- the boxes of parted: its rectangle, its answer, the two children's -/
structure RBx (w wx : World) (G0 G1 gf gs : Nat) (r rf rs : R4) : Prop where
  bel : Below w.heap.size w wx
  l0 : w.heap.size ≤ G0
  l1 : w.heap.size ≤ G1
  l2 : w.heap.size ≤ gf
  l3 : w.heap.size ≤ gs
  b0 : wx.heap[G0]? = some (.cells (r4V r) 36 (0, 0))
  b1 : wx.heap[G1]? = some (.cells #[.int .i64 0, .int .i64 0, .int .i64 0, .int .i64 0, .int .i64 0, .int .i64 0, .int .i64 0, .int .i64 0] 102 (0, 0))
  bf : wx.heap[gf]? = some (.cells (r4V rf) 36 (0, 0))
  bs : wx.heap[gs]? = some (.cells (r4V rs) 36 (0, 0))
  n1 : gf ≠ gs
  n2 : gf ≠ G0
  n3 : gs ≠ G0
  n4 : gf ≠ G1
  n5 : gs ≠ G1
  n6 : G0 ≠ G1
theorem RBx.later {w wx wy : World} {G0 G1 gf gs : Nat} {r rf rs : R4} (h : RBx w wx G0 G1 gf gs r rf rs) (hb : Below wx.heap.size wx wy) : RBx w wy G0 G1 gf gs r rf rs := by
  have lt : ∀ {k : Nat} {o : Obj}, wx.heap[k]? = some o → wy.heap[k]? = some o := fun {k o} q => by rw [hb.block k (Array.getElem?_eq_some_iff.1 q).1]; exact q
  exact ⟨h.bel.trans (hb.mono h.bel.size), h.l0, h.l1, h.l2, h.l3, lt h.b0, lt h.b1, lt h.bf, lt h.bs, h.n1, h.n2, h.n3, h.n4, h.n5, h.n6⟩
theorem below_set {B : Nat} {w wx : World} (h : Below B w wx) (g j : Nat) (u : Value) (hg : B ≤ g) : Below B w (wx.setCell ⟨g, j, none⟩ u) := ⟨h.os, h.tape, h.output, by have := h.size; simpa using this, fun k hk => by rw [heap_setCell_other _ _ _ _ (show k ≠ g by omega)]; exact h.block k hk⟩
theorem RBx.setF {w wx : World} {G0 G1 gf gs : Nat} {r rf rs : R4} (h : RBx w wx G0 G1 gf gs r rf rs) (j : Nat) (u : Value) (rf' : R4) (e : (r4V rf).setIfInBounds j u = r4V rf') : RBx w (wx.setCell ⟨gf, j, none⟩ u) G0 G1 gf gs r rf' rs :=
  ⟨below_set h.bel gf j u h.l2, h.l0, h.l1, h.l2, h.l3, by rw [heap_setCell_other _ _ _ _ h.n2.symm]; exact h.b0, by rw [heap_setCell_other _ _ _ _ h.n4.symm]; exact h.b1, by rw [bkset h.bf, e], by rw [heap_setCell_other _ _ _ _ h.n1.symm]; exact h.bs, h.n1, h.n2, h.n3, h.n4, h.n5, h.n6⟩
theorem RBx.setS {w wx : World} {G0 G1 gf gs : Nat} {r rf rs : R4} (h : RBx w wx G0 G1 gf gs r rf rs) (j : Nat) (u : Value) (rs' : R4) (e : (r4V rs).setIfInBounds j u = r4V rs') : RBx w (wx.setCell ⟨gs, j, none⟩ u) G0 G1 gf gs r rf rs' :=
  ⟨below_set h.bel gs j u h.l3, h.l0, h.l1, h.l2, h.l3, by rw [heap_setCell_other _ _ _ _ h.n3.symm]; exact h.b0, by rw [heap_setCell_other _ _ _ _ h.n5.symm]; exact h.b1, by rw [heap_setCell_other _ _ _ _ h.n1]; exact h.bf, by rw [bkset h.bs, e], h.n1, h.n2, h.n3, h.n4, h.n5, h.n6⟩
theorem r4_cells {w : World} {g : Nat} {r : R4} (h : w.heap[g]? = some (.cells (r4V r) 36 (0, 0))) : w.cell? ⟨g, 0, none⟩ = some (.int .i64 r.x) ∧ w.cell? ⟨g, 1, none⟩ = some (.int .i64 r.y) ∧ w.cell? ⟨g, 2, none⟩ = some (.int .i64 r.w) ∧ w.cell? ⟨g, 3, none⟩ = some (.int .i64 r.h) ∧ ∀ j, w.frozen? ⟨g, j, none⟩ = false := by
  refine ⟨by simp [World.cell?, h, r4V], by simp [World.cell?, h, r4V], by simp [World.cell?, h, r4V], by simp [World.cell?, h, r4V], fun j => by simp [World.frozen?, h]⟩
set_option maxHeartbeats 8000000 in
theorem parted_any {B m : Nat} {v : Value} {s : Ps} {w : World} (h : PAt B w m v s) (ho : OkP s) (i : Nat) (hi : i < s.L.length) (g c : Nat) (hv : v = .slice (some ⟨g, 0, none⟩) s.L.length c) (hp : PairW s.L[i]) (r : R4) (hr : R4Ok r) (f : Int) (hf : f = fstV s.L s.L[i] (lenR s.L[i] r)) :
    Calls Try.prog 61 #[.pointer (some ⟨m, 0, none⟩), .pointer (some ⟨g, i * 8, none⟩), r4A r] w fun e w' => e = .returned (.agg #[.int .i64 (fstR s.L[i] r f).x, .int .i64 (fstR s.L[i] r f).y, .int .i64 (fstR s.L[i] r f).w, .int .i64 (fstR s.L[i] r f).h, .int .i64 (sndR s.L[i] r f).x, .int .i64 (sndR s.L[i] r f).y, .int .i64 (sndR s.L[i] r f).w, .int .i64 (sndR s.L[i] r f).h]) ∧ Below w.heap.size w w' := by
  unfold r4A
  obtain ⟨x0, y0, w0, h0, xw, yh⟩ := hr
  have HFP : Hid (∀ n, 0 ≤ n → n ≤ 1000 → ∀ w1, Below w.heap.size w w1 → Calls Try.prog 78 #[.pointer (some ⟨m, 0, none⟩), .pointer (some ⟨g, i * 8, none⟩), .int .i64 n] w1 fun e w' => e = .returned (.int .i64 (fstV s.L s.L[i] n)) ∧ Hid (Below w1.heap.size w1 w')) := hidden (fun n n0 n1 w1 hb => (firstPart_any (h.later hb) ho i hi g c hv hp n n0 n1).mono (fun e w' hh => ⟨hh.1, hidden hh.2⟩))
  have HC : Hid (∀ w1, Below w.heap.size w w1 → w1.cell? ⟨g, i * 8 + 5, none⟩ = some (.int .i64 s.L[i].m)) := hidden (fun w1 hb => by
    have q := (h.later hb).row
    rw [hv] at q
    exact (wrow_cells q i hi).2.2.2.2.2.1)
  have HBS := hidden fun wx => isBeside_any s.L[i].m wx hp.mt
  have hfb := fst_bd s.L s.L[i] (lenR s.L[i] r) (by unfold lenR; split <;> omega) hp.s0
  rw [← hf] at hfb
  have HX1 : Hid (s.L[i].m % 4 < 2 → fstR s.L[i] r f = ⟨r.x, r.y, f, r.h⟩ ∧ sndR s.L[i] r f = ⟨r.x + f, r.y, r.w - f, r.h⟩ ∧ fstV s.L s.L[i] r.w = f ∧ f ≤ r.w) := hidden (fun q => by
    have e : lenR s.L[i] r = r.w := by unfold lenR; rw [if_pos q]
    rw [e] at hf hfb
    refine ⟨by unfold fstR; rw [if_pos q], by unfold sndR; rw [if_pos q], hf.symm, hfb.2⟩)
  have HX2 : Hid (¬ s.L[i].m % 4 < 2 → fstR s.L[i] r f = ⟨r.x, r.y, r.w, f⟩ ∧ sndR s.L[i] r f = ⟨r.x, r.y + f, r.w, r.h - f⟩ ∧ fstV s.L s.L[i] r.h = f ∧ f ≤ r.h) := hidden (fun q => by
    have e : lenR s.L[i] r = r.h := by unfold lenR; rw [if_neg q]
    rw [e] at hf hfb
    refine ⟨by unfold fstR; rw [if_neg q], by unfold sndR; rw [if_neg q], hf.symm, hfb.2⟩)
  have f0 := hfb.1
  generalize hff : fstR s.L[i] r f = FR at *
  generalize hss : sndR s.L[i] r f = SR at *
  generalize fstV s.L s.L[i] = FV at *
  generalize s.L[i].m = M at *
  clear h hp hv hf hfb hff hss
  go_enter Try.func61, Try.ntmps61
  go_upto_region 1 with fail
  have HW0 : Hid (Below w.heap.size w ((w.alloc (.cells #[.int .i64 r.x, .int .i64 r.y, .int .i64 r.w, .int .i64 r.h] 36)).alloc (.cells #[.int .i64 0, .int .i64 0, .int .i64 0, .int .i64 0, .int .i64 0, .int .i64 0, .int .i64 0, .int .i64 0] 102))) := hidden (((Below.refl _ _).alloc (Nat.le_refl _) _).alloc (by simp) _)
  have HW1 : Hid (((w.alloc (.cells #[.int .i64 r.x, .int .i64 r.y, .int .i64 r.w, .int .i64 r.h] 36)).alloc (.cells #[.int .i64 0, .int .i64 0, .int .i64 0, .int .i64 0, .int .i64 0, .int .i64 0, .int .i64 0, .int .i64 0] 102)).heap[w.heap.size]? = some (.cells (r4V r) 36 (0, 0))) := hidden (by rw [heap_alloc_old _ _ (by simp)]; exact heap_alloc_new w _)
  have HW2 : Hid (((w.alloc (.cells #[.int .i64 r.x, .int .i64 r.y, .int .i64 r.w, .int .i64 r.h] 36)).alloc (.cells #[.int .i64 0, .int .i64 0, .int .i64 0, .int .i64 0, .int .i64 0, .int .i64 0, .int .i64 0, .int .i64 0] 102)).heap[w.heap.size + 1]? = some (.cells #[.int .i64 0, .int .i64 0, .int .i64 0, .int .i64 0, .int .i64 0, .int .i64 0, .int .i64 0, .int .i64 0] 102 (0, 0))) := hidden (by
    have q := heap_alloc_new (w.alloc (.cells #[.int .i64 r.x, .int .i64 r.y, .int .i64 r.w, .int .i64 r.h] 36)) (.cells #[.int .i64 0, .int .i64 0, .int .i64 0, .int .i64 0, .int .i64 0, .int .i64 0, .int .i64 0, .int .i64 0] 102)
    rw [show (w.alloc (.cells #[.int .i64 r.x, .int .i64 r.y, .int .i64 r.w, .int .i64 r.h] 36)).heap.size = w.heap.size + 1 by simp] at q
    exact q)
  have hsz : ((w.alloc (.cells #[.int .i64 r.x, .int .i64 r.y, .int .i64 r.w, .int .i64 r.h] 36)).alloc (.cells #[.int .i64 0, .int .i64 0, .int .i64 0, .int .i64 0, .int .i64 0, .int .i64 0, .int .i64 0, .int .i64 0] 102)).heap.size = w.heap.size + 1 + 1 := by simp
  generalize (w.alloc (.cells #[.int .i64 r.x, .int .i64 r.y, .int .i64 r.w, .int .i64 r.h] 36)).alloc (.cells #[.int .i64 0, .int .i64 0, .int .i64 0, .int .i64 0, .int .i64 0, .int .i64 0, .int .i64 0, .int .i64 0] 102) = W0 at *
  go_cut [7, 8] from 9 to 10 (fun s7 s8 wx => ∃ gf gs, s7 = .pointer (some ⟨gf, 0, none⟩) ∧ s8 = .pointer (some ⟨gs, 0, none⟩) ∧ Hid (RBx w wx w.heap.size (w.heap.size + 1) gf gs r r r))
  case first =>
    have HRB : Hid (∀ gf gs wx, (gf = W0.heap.size ∧ gs = W0.heap.size + 1 ∨ gf = W0.heap.size + 1 ∧ gs = W0.heap.size) → wx.heap = ((W0.alloc (.cells (r4V r) 36)).alloc (.cells (r4V r) 36)).heap → wx.os = W0.os → wx.tape = W0.tape → wx.output = W0.output → RBx w wx w.heap.size (w.heap.size + 1) gf gs r r r) := hidden (fun gf gs wx hg hh ho1 ho2 ho3 => by
      have hb : Below W0.heap.size W0 ((W0.alloc (.cells (r4V r) 36)).alloc (.cells (r4V r) 36)) := ((Below.refl _ _).alloc (Nat.le_refl _) _).alloc (by simp) _
      have hb2 : Below W0.heap.size W0 wx := ⟨ho1, ho2, ho3, by rw [hh]; exact hb.size, fun k hk => by rw [hh]; exact hb.block k hk⟩
      have a1 : wx.heap[W0.heap.size]? = some (.cells (r4V r) 36 (0, 0)) := by rw [hh, heap_alloc_old _ _ (by simp)]; exact heap_alloc_new W0 _
      have a2 : wx.heap[W0.heap.size + 1]? = some (.cells (r4V r) 36 (0, 0)) := by
        rw [hh]
        have q := heap_alloc_new (W0.alloc (.cells (r4V r) 36)) (.cells (r4V r) 36)
        rwa [show (W0.alloc (.cells (r4V r) 36)).heap.size = W0.heap.size + 1 by simp] at q
      have c0 : wx.heap[w.heap.size]? = some (.cells (r4V r) 36 (0, 0)) := by rw [hb2.block _ (by omega)]; exact HW1.out
      have c1 := hb2.block (w.heap.size + 1) (by omega)
      rw [HW2.out] at c1
      rcases hg with ⟨rfl, rfl⟩ | ⟨rfl, rfl⟩
      · exact ⟨HW0.out.trans (hb2.mono HW0.out.size), by omega, by omega, by omega, by omega, c0, c1, a1, a2, by omega, by omega, by omega, by omega, by omega, by omega⟩
      · exact ⟨HW0.out.trans (hb2.mono HW0.out.size), by omega, by omega, by omega, by omega, c0, c1, a2, a1, by omega, by omega, by omega, by omega, by omega, by omega⟩)
    obtain ⟨e0, e1, e2, e3, _⟩ := r4_cells HW1.out
    have hlt : w.heap.size < W0.heap.size := by omega
    generalize w.heap.size = G0 at *
    clear HW0 HW1 HW2
    go_region_held3 (fun w' => w'.cell? ⟨G0, 0, none⟩ = some (.int .i64 r.x) ∧ w'.cell? ⟨G0, 1, none⟩ = some (.int .i64 r.y) ∧ w'.cell? ⟨G0, 2, none⟩ = some (.int .i64 r.w) ∧ w'.cell? ⟨G0, 3, none⟩ = some (.int .i64 r.h)) (first | assumption | exact ⟨by assumption, by assumption, by assumption, by assumption⟩ | go_keep) (fail)
    all_goals (try go_wp2_with fail)
    all_goals go_meet
    all_goals exact ⟨_, _, rfl, rfl, hidden (HRB.out _ _ _ (by omega) rfl rfl rfl rfl)⟩
  case rest =>
    obtain ⟨gf, gs, rfl, rfl, HRB⟩ := hcut
    have hmc := HC.out _ HRB.out.bel
    obtain ⟨z0, z1, z2, z3, _⟩ := r4_cells HRB.out.b0
    obtain ⟨t0, t1, t2, t3, zf⟩ := r4_cells HRB.out.bf
    have zf0 := zf 0
    have zf1 := zf 1
    have zf2 := zf 2
    have zf3 := zf 3
    obtain ⟨n1, n2, n3, n4, n5, n6⟩ : gf ≠ gs ∧ gf ≠ w.heap.size ∧ gs ≠ w.heap.size ∧ gf ≠ w.heap.size + 1 ∧ gs ≠ w.heap.size + 1 ∧ w.heap.size ≠ w.heap.size + 1 := ⟨HRB.out.n1, HRB.out.n2, HRB.out.n3, HRB.out.n4, HRB.out.n5, HRB.out.n6⟩
    clear HW0 HW1 HW2 HC hsz zf
    generalize hG1 : w.heap.size + 1 = G1 at *
    have HWS := hidden (show w.heap.size ≤ G1 by omega)
    obtain ⟨G0, hG0⟩ : ∃ G0, w.heap.size = G0 := ⟨_, rfl⟩
    rw [hG0] at HRB n2 n3 n6 z0 z1 z2 z3
    rw [hG0]
    clear hG1
    by_cases hM0 : M % 4 < 2
    · have hM : M % 4 < 2 := hM0
      obtain ⟨eF, eS, eV, fl⟩ := HX1.out hM
      rw [show decide (M % 4 < 2) = true by simpa using hM] at HBS
      have HFP1 := hidden (HFP.out r.w (by omega) (by omega))
      rw [eV] at HFP1
      have HEF := hidden eF
      have HES := hidden eS
      have HRB6' : Hid (∀ w5, Below wc.heap.size wc w5 → RBx w (w5.setCell ⟨gf, 2, none⟩ (.int .i64 f)) G0 G1 gf gs r ⟨r.x, r.y, f, r.h⟩ r) := hidden (fun w5 hb => (HRB.out.later hb).setF 2 (.int .i64 f) ⟨r.x, r.y, f, r.h⟩ rfl)
      clear eF eS eV HX1 HX2 HFP hM hM0
      go_upto_region 4 with (first | (go_at_call 50; refine (HBS.out _).mono ?_; rintro e w2 ⟨rfl, e2⟩; rw [e2]; clear e2) | (go_at_call 78; refine (HFP1.out _ HRB.out.bel).mono ?_; rintro e w5 ⟨rfl, HB5⟩; obtain ⟨y0, y1, y2, y3, yf⟩ := r4_cells (HRB.out.later HB5.out).bf; have yf2 := yf 2; clear yf) | fail)
      have HRB6 := hidden (HRB6'.out _ HB5.out)
      clear HRB6' HFP1 HBS y0 y1 y2 y3 yf2 zf0 zf1 zf2 zf3 t0 t1 t2 t3
      generalize w5.setCell ⟨gf, 2, none⟩ (.int .i64 f) = w6 at *
      obtain ⟨a0, a1, a2, a3, _⟩ := r4_cells HRB6.out.b0
      obtain ⟨p0, p1, p2, p3, _⟩ := r4_cells HRB6.out.bf
      obtain ⟨d0, d1, d2, d3, df⟩ := r4_cells HRB6.out.bs
      have df0 := df 0
      have df1 := df 1
      have df2 := df 2
      have df3 := df 3
      simp only at a0 a1 a2 a3 p0 p1 p2 p3 d0 d1 d2 d3
      have HRB7 : Hid (RBx w ((w6.setCell ⟨gs, 0, none⟩ (.int .i64 (r.x + f))).setCell ⟨gs, 2, none⟩ (.int .i64 (r.w - f))).drew G0 G1 gf gs r ⟨r.x, r.y, f, r.h⟩ ⟨r.x + f, r.y, r.w - f, r.h⟩) := hidden (((HRB6.out.setS 0 (.int .i64 (r.x + f)) ⟨r.x + f, r.y, r.w, r.h⟩ rfl).setS 2 (.int .i64 (r.w - f)) ⟨r.x + f, r.y, r.w - f, r.h⟩ rfl).later (Below.refl _ _).drew)
      clear df
      have n1' : gs ≠ gf := n1.symm
      have u1 : IntKind.i64.wrap (r.x + f) = r.x + f := by rw [IntKind.wrap_i64]; omega
      have u2 : IntKind.i64.wrap (r.w - f) = r.w - f := by rw [IntKind.wrap_i64]; omega
      go_region_held3 (fun w' => w'.cell? ⟨G0, 0, none⟩ = some (.int .i64 r.x) ∧ w'.cell? ⟨G0, 2, none⟩ = some (.int .i64 r.w) ∧ w'.cell? ⟨gf, 2, none⟩ = some (.int .i64 f)) (first | assumption | exact ⟨by assumption, by assumption, by assumption⟩ | go_keep) (fail)
      all_goals
        generalize ((w6.setCell ⟨gs, 0, none⟩ (.int .i64 (r.x + f))).setCell ⟨gs, 2, none⟩ (.int .i64 (r.w - f))).drew = w8 at *
        clear HRB6 a0 a1 a2 a3 p0 p1 p2 p3 d0 d1 d2 d3 df0 df1 df2 df3
        obtain ⟨p0, p1, p2, p3, _⟩ := r4_cells HRB7.out.bf
        obtain ⟨d0, d1, d2, d3, _⟩ := r4_cells HRB7.out.bs
        have hb1 := HRB7.out.b1
        have c0 : w8.cell? ⟨G1, 0, none⟩ = some (.int .i64 0) := by simp [World.cell?, hb1]
        have c1 : w8.cell? ⟨G1, 1, none⟩ = some (.int .i64 0) := by simp [World.cell?, hb1]
        have c2 : w8.cell? ⟨G1, 2, none⟩ = some (.int .i64 0) := by simp [World.cell?, hb1]
        have c3 : w8.cell? ⟨G1, 3, none⟩ = some (.int .i64 0) := by simp [World.cell?, hb1]
        have c4 : w8.cell? ⟨G1, 4, none⟩ = some (.int .i64 0) := by simp [World.cell?, hb1]
        have c5 : w8.cell? ⟨G1, 5, none⟩ = some (.int .i64 0) := by simp [World.cell?, hb1]
        have c6 : w8.cell? ⟨G1, 6, none⟩ = some (.int .i64 0) := by simp [World.cell?, hb1]
        have c7 : w8.cell? ⟨G1, 7, none⟩ = some (.int .i64 0) := by simp [World.cell?, hb1]
        have g0 : w8.frozen? ⟨G1, 0, none⟩ = false := by simp [World.frozen?, hb1]
        have g1 : w8.frozen? ⟨G1, 1, none⟩ = false := by simp [World.frozen?, hb1]
        have g2 : w8.frozen? ⟨G1, 2, none⟩ = false := by simp [World.frozen?, hb1]
        have g3 : w8.frozen? ⟨G1, 3, none⟩ = false := by simp [World.frozen?, hb1]
        have g4 : w8.frozen? ⟨G1, 4, none⟩ = false := by simp [World.frozen?, hb1]
        have g5 : w8.frozen? ⟨G1, 5, none⟩ = false := by simp [World.frozen?, hb1]
        have g6 : w8.frozen? ⟨G1, 6, none⟩ = false := by simp [World.frozen?, hb1]
        have g7 : w8.frozen? ⟨G1, 7, none⟩ = false := by simp [World.frozen?, hb1]
        simp only at p0 p1 p2 p3 d0 d1 d2 d3
        clear hb1
        go_wp2
        exact bodyPost_ret (v := .agg #[.int .i64 r.x, .int .i64 r.y, .int .i64 f, .int .i64 r.h, .int .i64 (r.x + f), .int .i64 r.y, .int .i64 (r.w - f), .int .i64 r.h]) (by simp [results, Try.results61, go_sem, c0, c1, c2, c3, c4, c5, c6, c7]) rfl ⟨by rw [HEF.out, HES.out], below_set (below_set (below_set (below_set (below_set (below_set (below_set (below_set (HRB7.out.bel) G1 0 _ HRB7.out.l1) G1 1 _ HRB7.out.l1) G1 2 _ HRB7.out.l1) G1 3 _ HRB7.out.l1) G1 4 _ HRB7.out.l1) G1 5 _ HRB7.out.l1) G1 6 _ HRB7.out.l1) G1 7 _ HRB7.out.l1⟩
    · have hM : ¬ M % 4 < 2 := hM0
      obtain ⟨eF, eS, eV, fl⟩ := HX2.out hM
      rw [show decide (M % 4 < 2) = false by simpa using hM] at HBS
      have HFP1 := hidden (HFP.out r.h (by omega) (by omega))
      rw [eV] at HFP1
      have HEF := hidden eF
      have HES := hidden eS
      have HRB6' : Hid (∀ w5, Below wc.heap.size wc w5 → RBx w (w5.setCell ⟨gf, 3, none⟩ (.int .i64 f)) G0 G1 gf gs r ⟨r.x, r.y, r.w, f⟩ r) := hidden (fun w5 hb => (HRB.out.later hb).setF 3 (.int .i64 f) ⟨r.x, r.y, r.w, f⟩ rfl)
      clear eF eS eV HX1 HX2 HFP hM hM0
      go_upto_region 6 with (first | (go_at_call 50; refine (HBS.out _).mono ?_; rintro e w2 ⟨rfl, e2⟩; rw [e2]; clear e2) | (go_at_call 78; refine (HFP1.out _ HRB.out.bel).mono ?_; rintro e w5 ⟨rfl, HB5⟩; obtain ⟨y0, y1, y2, y3, yf⟩ := r4_cells (HRB.out.later HB5.out).bf; have yf2 := yf 3; clear yf) | fail)
      have HRB6 := hidden (HRB6'.out _ HB5.out)
      clear HRB6' HFP1 HBS y0 y1 y2 y3 yf2 zf0 zf1 zf2 zf3 t0 t1 t2 t3
      generalize w5.setCell ⟨gf, 3, none⟩ (.int .i64 f) = w6 at *
      obtain ⟨a0, a1, a2, a3, _⟩ := r4_cells HRB6.out.b0
      obtain ⟨p0, p1, p2, p3, _⟩ := r4_cells HRB6.out.bf
      obtain ⟨d0, d1, d2, d3, df⟩ := r4_cells HRB6.out.bs
      have df0 := df 0
      have df1 := df 1
      have df2 := df 2
      have df3 := df 3
      simp only at a0 a1 a2 a3 p0 p1 p2 p3 d0 d1 d2 d3
      have HRB7 : Hid (RBx w ((w6.setCell ⟨gs, 1, none⟩ (.int .i64 (r.y + f))).setCell ⟨gs, 3, none⟩ (.int .i64 (r.h - f))).drew G0 G1 gf gs r ⟨r.x, r.y, r.w, f⟩ ⟨r.x, r.y + f, r.w, r.h - f⟩) := hidden (((HRB6.out.setS 1 (.int .i64 (r.y + f)) ⟨r.x, r.y + f, r.w, r.h⟩ rfl).setS 3 (.int .i64 (r.h - f)) ⟨r.x, r.y + f, r.w, r.h - f⟩ rfl).later (Below.refl _ _).drew)
      clear df
      have n1' : gs ≠ gf := n1.symm
      have u1 : IntKind.i64.wrap (r.y + f) = r.y + f := by rw [IntKind.wrap_i64]; omega
      have u2 : IntKind.i64.wrap (r.h - f) = r.h - f := by rw [IntKind.wrap_i64]; omega
      go_region_held3 (fun w' => w'.cell? ⟨G0, 1, none⟩ = some (.int .i64 r.y) ∧ w'.cell? ⟨G0, 3, none⟩ = some (.int .i64 r.h) ∧ w'.cell? ⟨gf, 3, none⟩ = some (.int .i64 f)) (first | assumption | exact ⟨by assumption, by assumption, by assumption⟩ | go_keep) (fail)
      all_goals
        generalize ((w6.setCell ⟨gs, 1, none⟩ (.int .i64 (r.y + f))).setCell ⟨gs, 3, none⟩ (.int .i64 (r.h - f))).drew = w8 at *
        clear HRB6 a0 a1 a2 a3 p0 p1 p2 p3 d0 d1 d2 d3 df0 df1 df2 df3
        obtain ⟨p0, p1, p2, p3, _⟩ := r4_cells HRB7.out.bf
        obtain ⟨d0, d1, d2, d3, _⟩ := r4_cells HRB7.out.bs
        have hb1 := HRB7.out.b1
        have c0 : w8.cell? ⟨G1, 0, none⟩ = some (.int .i64 0) := by simp [World.cell?, hb1]
        have c1 : w8.cell? ⟨G1, 1, none⟩ = some (.int .i64 0) := by simp [World.cell?, hb1]
        have c2 : w8.cell? ⟨G1, 2, none⟩ = some (.int .i64 0) := by simp [World.cell?, hb1]
        have c3 : w8.cell? ⟨G1, 3, none⟩ = some (.int .i64 0) := by simp [World.cell?, hb1]
        have c4 : w8.cell? ⟨G1, 4, none⟩ = some (.int .i64 0) := by simp [World.cell?, hb1]
        have c5 : w8.cell? ⟨G1, 5, none⟩ = some (.int .i64 0) := by simp [World.cell?, hb1]
        have c6 : w8.cell? ⟨G1, 6, none⟩ = some (.int .i64 0) := by simp [World.cell?, hb1]
        have c7 : w8.cell? ⟨G1, 7, none⟩ = some (.int .i64 0) := by simp [World.cell?, hb1]
        have g0 : w8.frozen? ⟨G1, 0, none⟩ = false := by simp [World.frozen?, hb1]
        have g1 : w8.frozen? ⟨G1, 1, none⟩ = false := by simp [World.frozen?, hb1]
        have g2 : w8.frozen? ⟨G1, 2, none⟩ = false := by simp [World.frozen?, hb1]
        have g3 : w8.frozen? ⟨G1, 3, none⟩ = false := by simp [World.frozen?, hb1]
        have g4 : w8.frozen? ⟨G1, 4, none⟩ = false := by simp [World.frozen?, hb1]
        have g5 : w8.frozen? ⟨G1, 5, none⟩ = false := by simp [World.frozen?, hb1]
        have g6 : w8.frozen? ⟨G1, 6, none⟩ = false := by simp [World.frozen?, hb1]
        have g7 : w8.frozen? ⟨G1, 7, none⟩ = false := by simp [World.frozen?, hb1]
        simp only at p0 p1 p2 p3 d0 d1 d2 d3
        clear hb1
        go_wp2
        exact bodyPost_ret (v := .agg #[.int .i64 r.x, .int .i64 r.y, .int .i64 r.w, .int .i64 f, .int .i64 r.x, .int .i64 (r.y + f), .int .i64 r.w, .int .i64 (r.h - f)]) (by simp [results, Try.results61, go_sem, c0, c1, c2, c3, c4, c5, c6, c7]) rfl ⟨by rw [HEF.out, HES.out], below_set (below_set (below_set (below_set (below_set (below_set (below_set (below_set (HRB7.out.bel) G1 0 _ HRB7.out.l1) G1 1 _ HRB7.out.l1) G1 2 _ HRB7.out.l1) G1 3 _ HRB7.out.l1) G1 4 _ HRB7.out.l1) G1 5 _ HRB7.out.l1) G1 6 _ HRB7.out.l1) G1 7 _ HRB7.out.l1⟩
end Go.Proofs.Ytilfgbcbodjegaa
