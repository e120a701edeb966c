/- Contracts of package text's packedPiece, Next, Begin. -/
import Derived.Test.YtbifolpahmeaeaaB12g
namespace Go.Proofs.Ytbifolpahmeaeaa
open Go.RowKit
set_option maxHeartbeats 1000000
set_option maxRecDepth 100000
set_option linter.unusedVariables false

theorem dsR_ok {zs : List Int} : ∀ {f node : Nat} {t : Ta}, (dsR zs f node t).1 = 0 → (dsR zs f node t).2.1 + 1 ≤ zs.length
  | f, node, t, h => by
    unfold dsR at h ⊢
    by_cases h1 : node + 1 ≤ zs.length
    · rw [if_pos h1] at h ⊢
      by_cases h2 : nuV zs node 1 ≠ 0
      · rw [if_pos h2] at h ⊢
        exact h1
      · rw [if_neg h2] at h ⊢
        match f with
        | 0 => simp at h
        | f + 1 =>
          simp only at h ⊢
          by_cases h3 : t.ad + 1 ≤ zs.length
          · rw [if_pos h3] at h ⊢
            by_cases h4 : node + 1 + 4 * bitV zs t + 4 ≤ zs.length
            · rw [if_pos h4] at h ⊢
              exact dsR_ok h
            · rw [if_neg h4] at h; simp at h
          · rw [if_neg h3] at h; simp at h
    · rw [if_neg h1] at h; simp at h
/-- a piece of a packed text -/
def pkN (zs : List Int) (table : Nat) (t : Ta) : Nx :=
  if table = 0 then ⟨120, 0, [], ta0⟩
  else if (table + 8) % 4294967296 + 4 ≤ zs.length then
    if t.bit ≤ 7 then
      if (dsR zs 256 (nuV zs ((table + 8) % 4294967296) 4) t).1 = 0 then
        ⟨(lfR zs (dsR zs 256 (nuV zs ((table + 8) % 4294967296) 4) t).2.1).1, (lfR zs (dsR zs 256 (nuV zs ((table + 8) % 4294967296) 4) t).2.1).2.1, (lfR zs (dsR zs 256 (nuV zs ((table + 8) % 4294967296) 4) t).2.1).2.2, (dsR zs 256 (nuV zs ((table + 8) % 4294967296) 4) t).2.2⟩
      else ⟨(dsR zs 256 (nuV zs ((table + 8) % 4294967296) 4) t).1, 0, [], ta0⟩
    else ⟨120, 0, [], ta0⟩
  else ⟨90, 0, [], ta0⟩
/-- the boxes of a piece and a place that are to be told -/
structure Cx (w w' : World) (u0 u1 u2 u3 y0 y1 y2 : Value) : Prop where
  p : PBox w' (w.heap.size + 1) u0 u1 u2 u3
  n : w'.heap[w.heap.size + 1 + 1]? = some (.cells #[y0, y1, y2] 46 (0, 0))
  below : Below w.heap.size w w'
theorem Bx.cx {w w2 : World} {t : Ta} (h : Bx w w2 t) : Cx w w2 (.int .i64 0) (.slice none 0 0) (.int .u32 0) (.slice none 0 0) (.int .i64 0) (.int .u32 0) (.int .u32 0) := ⟨h.p, h.n, h.below⟩
theorem Cx.nlt {w w1 : World} {u0 u1 u2 u3 y0 y1 y2 : Value} (h : Cx w w1 u0 u1 u2 u3 y0 y1 y2) : w.heap.size + 1 + 1 < w1.heap.size := (Array.getElem?_eq_some_iff.1 h.n).1
theorem Cx.later {w w1 w2 : World} {u0 u1 u2 u3 y0 y1 y2 : Value} (h : Cx w w1 u0 u1 u2 u3 y0 y1 y2) (hb : Below w1.heap.size w1 w2) : Cx w w2 u0 u1 u2 u3 y0 y1 y2 := ⟨h.p.later hb, (hb.block _ h.nlt).trans h.n, h.below.trans (hb.mono h.below.size)⟩
theorem Cx.fr {w w1 w2 : World} {R : Nat} {u0 u1 u2 u3 y0 y1 y2 : Value} (h : Cx w w1 u0 u1 u2 u3 y0 y1 y2) (f : FR R w1 w2) (hR : w.heap.size + 1 + 1 < R) : Cx w w2 u0 u1 u2 u3 y0 y1 y2 :=
  ⟨h.p.fr f (by omega), (f.block _ h.nlt (by omega)).trans h.n, h.below.trans (f.below h.below.size (fun k e => by omega))⟩
theorem Cx.cells {w w1 : World} {u0 u1 u2 u3 y0 y1 y2 : Value} (h : Cx w w1 u0 u1 u2 u3 y0 y1 y2) : (w1.cell? ⟨w.heap.size + 1, 0, none⟩ = some u0 ∧ w1.cell? ⟨w.heap.size + 1, 1, none⟩ = some u1 ∧ w1.cell? ⟨w.heap.size + 1, 2, none⟩ = some u2 ∧ w1.cell? ⟨w.heap.size + 1, 3, none⟩ = some u3) ∧ (w1.cell? ⟨w.heap.size + 1 + 1, 0, none⟩ = some y0 ∧ w1.cell? ⟨w.heap.size + 1 + 1, 1, none⟩ = some y1 ∧ w1.cell? ⟨w.heap.size + 1 + 1, 2, none⟩ = some y2) ∧ (w1.frozen? ⟨w.heap.size + 1, 0, none⟩ = false ∧ w1.frozen? ⟨w.heap.size + 1, 1, none⟩ = false ∧ w1.frozen? ⟨w.heap.size + 1, 2, none⟩ = false ∧ w1.frozen? ⟨w.heap.size + 1, 3, none⟩ = false) ∧ (w1.frozen? ⟨w.heap.size + 1 + 1, 0, none⟩ = false ∧ w1.frozen? ⟨w.heap.size + 1 + 1, 1, none⟩ = false ∧ w1.frozen? ⟨w.heap.size + 1 + 1, 2, none⟩ = false) := by
  obtain ⟨p0, p1, p2, p3, fp⟩ := pb_box h.p
  refine ⟨⟨p0, p1, p2, p3⟩, ?_, ⟨fp 0, fp 1, fp 2, fp 3⟩, ?_⟩ <;> simp [World.cell?, World.frozen?, h.n]
theorem Cx.setN {w w2 : World} {u0 u1 u2 u3 y0 y1 y2 : Value} (h : Cx w w2 u0 u1 u2 u3 y0 y1 y2) (z0 z1 z2 : Value) : Cx w (set3 w2 (w.heap.size + 1 + 1) z0 z1 z2) u0 u1 u2 u3 z0 z1 z2 := by
  have hp : ∀ (wz : World) (jj : Nat) (u : Value), (wz.setCell ⟨w.heap.size + 1 + 1, jj, none⟩ u).heap[w.heap.size + 1]? = wz.heap[w.heap.size + 1]? := fun wz jj u => heap_set wz _ jj _ u (by omega)
  have hl : w.heap.size ≤ w.heap.size + 1 + 1 := by omega
  refine ⟨?_, ?_, ((h.below.setCell hl _).setCell hl _).setCell hl _⟩
  · unfold PBox set3
    rw [hp, hp, hp]
    exact h.p
  · have h' := h.n
    show (World.setCell _ _ _).heap[_]? = _
    simp [World.setCell, Array.getElem?_modify, h']
theorem Cx.setP {w w2 : World} {u0 u1 u2 u3 y0 y1 y2 : Value} (h : Cx w w2 u0 u1 u2 u3 y0 y1 y2) (z0 z1 z2 z3 : Value) : Cx w (set4 w2 (w.heap.size + 1) z0 z1 z2 z3) z0 z1 z2 z3 y0 y1 y2 := by
  have hn : ∀ (wz : World) (jj : Nat) (u : Value), (wz.setCell ⟨w.heap.size + 1, jj, none⟩ u).heap[w.heap.size + 1 + 1]? = wz.heap[w.heap.size + 1 + 1]? := fun wz jj u => heap_set wz _ jj _ u (by omega)
  refine ⟨pb_set h.p z0 z1 z2 z3, ?_, h.below.trans (set4_below w2 _ (by omega) _ _ _ _)⟩
  unfold set4
  rw [hn, hn, hn, hn]
  exact h.n
theorem prt_no {w w' : World} {E k : Nat} {cs : List Nat} {t : Ta} (h : Below w.heap.size w w') (hE : E ≠ 0) (k0 : Int) (ca : Option Addr) (cn cc : Nat) (ad : Int) (ra : Option Addr) (rn rc : Nat) (k' ad' bit' : Int) : PRet w ⟨E, k, cs, t⟩ (.returned (.tuple #[.agg #[.int .i64 k0, .slice ca cn cc, .int .u32 ad, .slice ra rn rc], .agg #[.int .i64 k', .int .u32 ad', .int .u32 bit'], .int .i64 E])) w' :=
  ⟨k0, ca, cn, cc, ad, ra, rn, rc, k', ad', bit', rfl, h, fun e => absurd e hE⟩
theorem tpacked_0 (t : Ta) (a : Option Addr) (n c : Nat) (w : World) :
    Calls Try.prog 30 #[.slice a n c, .int .u32 0, .agg #[.int .i64 t.k, .int .u32 t.ad, .int .u32 t.bit]] w (PRet w ⟨120, 0, [], ta0⟩) := by
  have hB := Bx.new w t
  obtain ⟨wa, hwa⟩ : ∃ wa, wa = ((w.alloc (.cells #[.int .i64 t.k, .int .u32 t.ad, .int .u32 t.bit] 46)).alloc (.cells #[.int .i64 0, .slice none 0 0, .int .u32 0, .slice none 0 0] 44)).alloc (.cells #[.int .i64 0, .int .u32 0, .int .u32 0] 46) := ⟨_, rfl⟩
  rw [← hwa] at hB
  obtain ⟨-, ⟨p0, p1, p2, p3⟩, ⟨n0, n1, n2⟩, fp, fn⟩ := hB.cells
  have p4 := fp 0
  have p5 := fp 1
  have p6 := fp 2
  have p7 := fp 3
  have n4 := fn 0
  have n5 := fn 1
  have n6 := fn 2
  have HB := hidden hB
  clear fp fn hB
  go_enter Try.func30, Try.ntmps30
  go_upto_region 1 with fail
  rw [← hwa]
  clear hwa
  go_upto_region 2 with fail
  go_region
  go_wp2
  obtain ⟨W, hW⟩ : ∃ W, W = set3 (set4 wa (w.heap.size + 1) (.int .i64 0) (.slice none 0 0) (.int .u32 0) (.slice none 0 0)) (w.heap.size + 1 + 1) (.int .i64 0) (.int .u32 0) (.int .u32 0) := ⟨_, rfl⟩
  obtain ⟨hbW, y0, y1, y2, y3, v0, v1, v2⟩ := HB.out.fin _ _ _ _ _ _ _ W hW
  unfold set3 set4 at hW
  rw [← hW]
  clear hW
  exact bodyPost_ret (v := .tuple #[.agg #[.int .i64 0, .slice none 0 0, .int .u32 0, .slice none 0 0], .agg #[.int .i64 0, .int .u32 0, .int .u32 0], .int .i64 120]) (by simp [results, Try.results30, go_sem, y0, y1, y2, y3, v0, v1, v2]) rfl ⟨0, none, 0, 0, 0, none, 0, 0, 0, 0, 0, rfl, hbW.drew, fun h => by simp at h⟩
theorem TBox.four {w : World} {R q : Nat} {a : Option Addr} {n c p e : Nat} (h : TBox w R a n c p e) (hq : R ≠ q) (u0 u1 u2 u3 : Value) : TBox (set4 w q u0 u1 u2 u3) R a n c p e := by
  have hn : ∀ (wz : World) (jj : Nat) (u : Value), (wz.setCell ⟨q, jj, none⟩ u).heap[R]? = wz.heap[R]? := fun wz jj u => heap_set wz _ jj _ u hq
  unfold TBox set4
  rw [hn, hn, hn, hn]
  exact h
theorem tpacked_90 (t : Ta) (table : Nat) (a : Option Addr) (n c : Nat) (zs : List Int) (w : World) (hm : Mem w a n c zs) (htab : table ≠ 0) (htl : table < 4294967296) (ht : t.ok) (h1 : ¬ (table + 8) % 4294967296 + 4 ≤ zs.length) :
    Calls Try.prog 30 #[.slice a n c, .int .u32 table, .agg #[.int .i64 t.k, .int .u32 t.ad, .int .u32 t.bit]] w (PRet w ⟨90, 0, [], ta0⟩) := by
  have hB := Bx.new w t
  obtain ⟨wa, hwa⟩ : ∃ wa, wa = ((w.alloc (.cells #[.int .i64 t.k, .int .u32 t.ad, .int .u32 t.bit] 46)).alloc (.cells #[.int .i64 0, .slice none 0 0, .int .u32 0, .slice none 0 0] 44)).alloc (.cells #[.int .i64 0, .int .u32 0, .int .u32 0] 46) := ⟨_, rfl⟩
  rw [← hwa] at hB
  have hma := hm.later hB.below
  have hle := hm.le
  have hl := hm.len
  have htb : (((table : Nat) : Int) == 0) = false := by simp; omega
  have htb2 : ¬ ((table : Nat) : Int) = 0 := by omega
  have hwt : IntKind.u32.wrap ((table : Int) + 8) = (((table + 8) % 4294967296 : Nat) : Int) := by rw [IntKind.wrap_u32]; omega
  have hpb : (table + 8) % 4294967296 < 4294967296 := Nat.mod_lt _ (by omega)
  have HOKZ := hidden hm.ok
  have HM := hidden hm
  generalize (table + 8) % 4294967296 = P8 at *
  have HT1 : Hid (Calls Try.prog 34 #[.pointer (some ⟨wa.heap.size, 0, none⟩), .int .i64 4] (wa.alloc (.cells #[.slice a n c, .int .u32 (P8 : Int), .int .i64 0] 77)) fun r w' => r = .returned (.int .u32 (tkV zs P8 0 4)) ∧ Hid (TBox w' wa.heap.size a n c (tkP zs P8 0 4) (tkE zs P8 0 4)) ∧ Hid (Bx w w' t)) := (take_new wa a n c P8 0 4 zs hma (.inr rfl) hpb).mono (fun r w' hh => ⟨hh.1, hh.2.1, hB.later hh.2.2⟩)
  have HQA : Hid (w.heap.size + 1 + 1 < wa.heap.size) := hB.n.lt
  clear hB hma hm
  rw [tkV_no h1, tkE_no h1] at HT1
  generalize tkP zs P8 0 4 = P1 at *
  go_enter Try.func30, Try.ntmps30
  go_upto_region 1 with fail
  rw [← hwa]
  clear hwa
  go_upto_region 6 with (first | (go_at_call 34; refine HT1.out.mono ?_; rintro r w1 ⟨rfl, HX1, HB1⟩; obtain ⟨x0, x1, x2, -⟩ := tb_box HX1.out; obtain ⟨⟨p0, p1, p2, p3⟩, ⟨n0, n1, n2⟩, ⟨p4, p5, p6, p7⟩, ⟨n4, n5, n6⟩⟩ := HB1.out.cx.cells; obtain ⟨⟨a0, a1, a2⟩, -, -, -, -⟩ := HB1.out.cells))
  have hq := HQA.out
  have c1 : ¬ wa.heap.size = w.heap.size + 1 := by omega
  have c2 : ¬ wa.heap.size = w.heap.size + 1 + 1 := by omega
  have c3 : ¬ w.heap.size + 1 = wa.heap.size := by omega
  have c4 : ¬ w.heap.size + 1 + 1 = wa.heap.size := by omega
  go_region
  go_wp2
  obtain ⟨W, hW⟩ : ∃ W, W = set3 (set4 w1 (w.heap.size + 1) (.int .i64 0) (.slice none 0 0) (.int .u32 0) (.slice none 0 0)) (w.heap.size + 1 + 1) (.int .i64 0) (.int .u32 0) (.int .u32 0) := ⟨_, rfl⟩
  have hcx := (HB1.out.cx.setP (.int .i64 0) (.slice none 0 0) (.int .u32 0) (.slice none 0 0)).setN (.int .i64 0) (.int .u32 0) (.int .u32 0)
  rw [← hW] at hcx
  obtain ⟨⟨y0, y1, y2, y3⟩, ⟨v0, v1, v2⟩, -, -⟩ := hcx.cells
  unfold set3 set4 at hW
  rw [← hW]
  clear hW
  exact bodyPost_ret (v := .tuple #[.agg #[.int .i64 0, .slice none 0 0, .int .u32 0, .slice none 0 0], .agg #[.int .i64 0, .int .u32 0, .int .u32 0], .int .i64 90]) (by simp [results, Try.results30, go_sem, y0, y1, y2, y3, v0, v1, v2]) rfl (prt_no hcx.below.drew (by decide) 0 none 0 0 0 none 0 0 0 0 0)
theorem tpacked_bit (t : Ta) (table : Nat) (a : Option Addr) (n c : Nat) (zs : List Int) (w : World) (hm : Mem w a n c zs) (htab : table ≠ 0) (htl : table < 4294967296) (ht : t.ok) (h1 : (table + 8) % 4294967296 + 4 ≤ zs.length) (h2 : ¬ t.bit ≤ 7) :
    Calls Try.prog 30 #[.slice a n c, .int .u32 table, .agg #[.int .i64 t.k, .int .u32 t.ad, .int .u32 t.bit]] w (PRet w ⟨120, 0, [], ta0⟩) := by
  have hB := Bx.new w t
  obtain ⟨wa, hwa⟩ : ∃ wa, wa = ((w.alloc (.cells #[.int .i64 t.k, .int .u32 t.ad, .int .u32 t.bit] 46)).alloc (.cells #[.int .i64 0, .slice none 0 0, .int .u32 0, .slice none 0 0] 44)).alloc (.cells #[.int .i64 0, .int .u32 0, .int .u32 0] 46) := ⟨_, rfl⟩
  rw [← hwa] at hB
  have hma := hm.later hB.below
  have hle := hm.le
  have hl := hm.len
  have htb : (((table : Nat) : Int) == 0) = false := by simp; omega
  have htb2 : ¬ ((table : Nat) : Int) = 0 := by omega
  have hwt : IntKind.u32.wrap ((table : Int) + 8) = (((table + 8) % 4294967296 : Nat) : Int) := by rw [IntKind.wrap_u32]; omega
  have hpb : (table + 8) % 4294967296 < 4294967296 := Nat.mod_lt _ (by omega)
  have HOKZ := hidden hm.ok
  have HM := hidden hm
  generalize (table + 8) % 4294967296 = P8 at *
  have HT1 : Hid (Calls Try.prog 34 #[.pointer (some ⟨wa.heap.size, 0, none⟩), .int .i64 4] (wa.alloc (.cells #[.slice a n c, .int .u32 (P8 : Int), .int .i64 0] 77)) fun r w' => r = .returned (.int .u32 (tkV zs P8 0 4)) ∧ Hid (TBox w' wa.heap.size a n c (tkP zs P8 0 4) (tkE zs P8 0 4)) ∧ Hid (Bx w w' t)) := (take_new wa a n c P8 0 4 zs hma (.inr rfl) hpb).mono (fun r w' hh => ⟨hh.1, hh.2.1, hB.later hh.2.2⟩)
  have HQA : Hid (w.heap.size + 1 + 1 < wa.heap.size) := hB.n.lt
  clear hB hma hm
  rw [tkV_ok h1, tkE_ok h1, tkP_ok h1] at HT1
  have d1 : (7 : Int) < ((t.bit : Nat) : Int) := by omega
  go_enter Try.func30, Try.ntmps30
  go_upto_region 1 with fail
  rw [← hwa]
  clear hwa
  go_upto_region 8 with (first | (go_at_call 34; refine HT1.out.mono ?_; rintro r w1 ⟨rfl, HX1, HB1⟩; obtain ⟨x0, x1, x2, -⟩ := tb_box HX1.out; obtain ⟨⟨p0, p1, p2, p3⟩, ⟨n0, n1, n2⟩, ⟨p4, p5, p6, p7⟩, ⟨n4, n5, n6⟩⟩ := HB1.out.cx.cells; obtain ⟨⟨a0, a1, a2⟩, -, -, -, -⟩ := HB1.out.cells))
  go_region
  go_wp2
  obtain ⟨W, hW⟩ : ∃ W, W = set3 (set4 w1 (w.heap.size + 1) (.int .i64 0) (.slice none 0 0) (.int .u32 0) (.slice none 0 0)) (w.heap.size + 1 + 1) (.int .i64 0) (.int .u32 0) (.int .u32 0) := ⟨_, rfl⟩
  have hcx := (HB1.out.cx.setP (.int .i64 0) (.slice none 0 0) (.int .u32 0) (.slice none 0 0)).setN (.int .i64 0) (.int .u32 0) (.int .u32 0)
  rw [← hW] at hcx
  obtain ⟨⟨y0, y1, y2, y3⟩, ⟨v0, v1, v2⟩, -, -⟩ := hcx.cells
  unfold set3 set4 at hW
  rw [← hW]
  clear hW
  exact bodyPost_ret (v := .tuple #[.agg #[.int .i64 0, .slice none 0 0, .int .u32 0, .slice none 0 0], .agg #[.int .i64 0, .int .u32 0, .int .u32 0], .int .i64 120]) (by simp [results, Try.results30, go_sem, y0, y1, y2, y3, v0, v1, v2]) rfl (prt_no hcx.below.drew (by decide) 0 none 0 0 0 none 0 0 0 0 0)
theorem tpacked_any (t : Ta) (table : Nat) (a : Option Addr) (n c : Nat) (zs : List Int) (w : World) (hm : Mem w a n c zs) (htab : table ≠ 0) (htl : table < 4294967296) (ht : t.ok) (h1 : (table + 8) % 4294967296 + 4 ≤ zs.length) (h2 : t.bit ≤ 7) :
    Calls Try.prog 30 #[.slice a n c, .int .u32 table, .agg #[.int .i64 t.k, .int .u32 t.ad, .int .u32 t.bit]] w (PRet w (pkN zs table t)) := by
  unfold pkN
  rw [if_neg htab, if_pos h1, if_pos h2]
  have hB := Bx.new w t
  obtain ⟨wa, hwa⟩ : ∃ wa, wa = ((w.alloc (.cells #[.int .i64 t.k, .int .u32 t.ad, .int .u32 t.bit] 46)).alloc (.cells #[.int .i64 0, .slice none 0 0, .int .u32 0, .slice none 0 0] 44)).alloc (.cells #[.int .i64 0, .int .u32 0, .int .u32 0] 46) := ⟨_, rfl⟩
  rw [← hwa] at hB
  have hma := hm.later hB.below
  have hle := hm.le
  have hl := hm.len
  have htb : (((table : Nat) : Int) == 0) = false := by simp; omega
  have htb2 : ¬ ((table : Nat) : Int) = 0 := by omega
  have hwt : IntKind.u32.wrap ((table : Int) + 8) = (((table + 8) % 4294967296 : Nat) : Int) := by rw [IntKind.wrap_u32]; omega
  have hpb : (table + 8) % 4294967296 < 4294967296 := Nat.mod_lt _ (by omega)
  have HOKZ := hidden hm.ok
  have HM := hidden hm
  generalize (table + 8) % 4294967296 = P8 at *
  have HT1 : Hid (Calls Try.prog 34 #[.pointer (some ⟨wa.heap.size, 0, none⟩), .int .i64 4] (wa.alloc (.cells #[.slice a n c, .int .u32 (P8 : Int), .int .i64 0] 77)) fun r w' => r = .returned (.int .u32 (tkV zs P8 0 4)) ∧ Hid (TBox w' wa.heap.size a n c (tkP zs P8 0 4) (tkE zs P8 0 4)) ∧ Hid (Bx w w' t)) := (take_new wa a n c P8 0 4 zs hma (.inr rfl) hpb).mono (fun r w' hh => ⟨hh.1, hh.2.1, hB.later hh.2.2⟩)
  have HQA : Hid (w.heap.size + 1 + 1 < wa.heap.size) := hB.n.lt
  clear hB hma hm
  rw [tkV_ok h1, tkE_ok h1, tkP_ok h1] at HT1
  have hNb := (nuV_bd zs HOKZ.out P8 4 (.inr rfl)).2
  have d1 : ¬ (7 : Int) < ((t.bit : Nat) : Int) := by omega
  have HDS : Hid (∀ w1, Bx w w1 t → Calls Try.prog 36 #[.slice a n c, .int .u32 (nuV zs P8 4), .agg #[.int .i64 t.k, .int .u32 t.ad, .int .u32 t.bit]] w1 fun r w' => r = .returned (.tuple #[.int .u32 (dsR zs 256 (nuV zs P8 4) t).2.1, .agg #[.int .i64 (dsR zs 256 (nuV zs P8 4) t).2.2.k, .int .u32 (dsR zs 256 (nuV zs P8 4) t).2.2.ad, .int .u32 (dsR zs 256 (nuV zs P8 4) t).2.2.bit], .int .i64 (dsR zs 256 (nuV zs P8 4) t).1]) ∧ Hid (Bx w w' t)) := fun w1 hb => (tdescend_any t (nuV zs P8 4) a n c zs w1 (HM.out.later hb.below) ht h2 hNb).mono (fun r w' hh => ⟨hh.1, hb.later hh.2⟩)
  have HOKD := hidden (dsR_ok (zs := zs) (f := 256) (node := nuV zs P8 4) (t := t))
  generalize dsR zs 256 (nuV zs P8 4) t = D at *
  obtain ⟨E, nd, u⟩ := D
  simp only at HDS HOKD ⊢
  generalize nuV zs P8 4 = N at *
  by_cases hE : E = 0
  · subst hE
    rw [if_pos rfl]
    have hnd := HOKD.out rfl
    have HLF : Hid (∀ w1, Mem w1 a n c zs → Calls Try.prog 37 #[.pointer (some ⟨w1.heap.size, 0, none⟩)] (w1.alloc (.cells #[.slice a n c, .int .u32 (nd : Int), .int .i64 0] 77)) (LRet (w1.alloc (.cells #[.slice a n c, .int .u32 (nd : Int), .int .i64 0] 77)) w1.heap.size a n c (lfR zs nd))) := fun w1 hm1 => by
      have hb := al_below w1 (.cells #[.slice a n c, .int .u32 (nd : Int), .int .i64 0] 77)
      refine tleaf_any w1.heap.size a n c nd zs _ (tb_new w1 a n c nd 0) (hm1.later hb) (fun h0 x e => ?_) (by omega)
      obtain ⟨g, o, e2, hbs⟩ := hm1.rd.bs h0
      rw [e2] at e
      cases e
      have hlt : g < w1.heap.size := World.block_lt_of_cell? _ _ (hbs.2 0 h0)
      show g ≠ _
      omega
    generalize lfR zs nd = L at *
    obtain ⟨EL, KL, CL⟩ := L
    simp only at HLF ⊢
    go_enter Try.func30, Try.ntmps30
    go_upto_region 1 with fail
    rw [← hwa]
    clear hwa
    go_upto_region 10 with (first | (go_at_call 34; refine HT1.out.mono ?_; rintro r w1 ⟨rfl, HX1, HB1⟩; obtain ⟨x0, x1, x2, -⟩ := tb_box HX1.out; obtain ⟨⟨p0, p1, p2, p3⟩, ⟨n0, n1, n2⟩, ⟨p4, p5, p6, p7⟩, ⟨n4, n5, n6⟩⟩ := HB1.out.cx.cells; obtain ⟨⟨a0, a1, a2⟩, -, -, -, -⟩ := HB1.out.cells) | (go_at_call 36; refine (HDS.out _ HB1.out).mono ?_; rintro r w2 ⟨rfl, HB2⟩; obtain ⟨⟨p0, p1, p2, p3⟩, ⟨n0, n1, n2⟩, ⟨p4, p5, p6, p7⟩, ⟨n4, n5, n6⟩⟩ := HB2.out.cx.cells))
    have HC2 := hidden (HB2.out.cx.setN (.int .i64 u.k) (.int .u32 u.ad) (.int .u32 u.bit))
    unfold set3 at HC2
    generalize ((w2.setCell ⟨w.heap.size + 1 + 1, 0, none⟩ (.int .i64 u.k)).setCell ⟨w.heap.size + 1 + 1, 1, none⟩ (.int .u32 u.ad)).setCell ⟨w.heap.size + 1 + 1, 2, none⟩ (.int .u32 u.bit) = w3 at *
    have HK := hidden (HLF.out w3 (HM.out.later HC2.out.below))
    have HQ3 := hidden HC2.out.nlt
    clear HLF HDS HB2 HB1 HX1 HT1 p0 p1 p2 p3 n0 n1 n2 p4 p5 p6 p7 n4 n5 n6 x0 x1 x2 a0 a1 a2
    go_upto_region 14 with (first | (go_at_call 37; refine HK.out.mono ?_; rintro r w4 ⟨ca, cc, ad, ra, rn, rc, p', rfl, hx4, hf4, hv4, hz4, hg4⟩; have HC4 := hidden ((HC2.out.later (al_below _ _)).fr hf4 HQ3.out); have HX4 := hidden hx4; have HV4 := hidden hv4; have HZ4 := hidden hz4; have HG4 := hidden hg4; obtain ⟨⟨p0, p1, p2, p3⟩, -, ⟨p4, p5, p6, p7⟩, -⟩ := HC4.out.cells; clear hx4 hf4 hv4 hz4 hg4))
    have HC5 := hidden (HC4.out.setP (.int .i64 KL) (.slice ca CL.length cc) (.int .u32 ad) (.slice ra rn rc))
    have hq3 : w.heap.size + 1 + 1 < w3.heap.size := HQ3.out
    have HX5 := hidden (HX4.out.four (q := w.heap.size + 1) (by omega) (.int .i64 KL) (.slice ca CL.length cc) (.int .u32 ad) (.slice ra rn rc))
    have HG5 : Hid (0 < CL.length → ∀ x, ca = some x → w.heap.size + 1 + 1 < x.block) := fun h x e => by have := HG4.out h x e; simp at this; omega
    have HV5 := hidden (HV4.out.set4 (w.heap.size + 1) (fun h x e => by have := HG5.out h x e; omega) (.int .i64 KL) (.slice ca CL.length cc) (.int .u32 ad) (.slice ra rn rc))
    unfold set4 at HC5 HX5 HV5
    generalize (((w4.setCell ⟨w.heap.size + 1, 0, none⟩ (.int .i64 KL)).setCell ⟨w.heap.size + 1, 1, none⟩ (.slice ca CL.length cc)).setCell ⟨w.heap.size + 1, 2, none⟩ (.int .u32 ad)).setCell ⟨w.heap.size + 1, 3, none⟩ (.slice ra rn rc) = w5 at *
    obtain ⟨⟨p0, p1, p2, p3⟩, ⟨n0, n1, n2⟩, ⟨p4, p5, p6, p7⟩, ⟨n4, n5, n6⟩⟩ := HC5.out.cells
    obtain ⟨x0, x1, x2, -⟩ := tb_box HX5.out
    clear HC4 HX4 HV4 HG4 HK HC2 HM
    have c1 : ¬ w3.heap.size = w.heap.size + 1 := by omega
    have c2 : ¬ w3.heap.size = w.heap.size + 1 + 1 := by omega
    have c3 : ¬ w.heap.size + 1 = w3.heap.size := by omega
    have c4 : ¬ w.heap.size + 1 + 1 = w3.heap.size := by omega
    go_region
    go_wp2
    obtain ⟨W, hW⟩ : ∃ W, W = set3 (set4 w5 (w.heap.size + 1) (.int .i64 KL) (.slice ca CL.length cc) (.int .u32 ad) (.slice ra rn rc)) (w.heap.size + 1 + 1) (.int .i64 u.k) (.int .u32 u.ad) (.int .u32 u.bit) := ⟨_, rfl⟩
    have hcx := (HC5.out.setP (.int .i64 KL) (.slice ca CL.length cc) (.int .u32 ad) (.slice ra rn rc)).setN (.int .i64 u.k) (.int .u32 u.ad) (.int .u32 u.bit)
    have hv := (HV5.out.set4 (w.heap.size + 1) (fun h x e => by have := HG5.out h x e; omega) (.int .i64 KL) (.slice ca CL.length cc) (.int .u32 ad) (.slice ra rn rc)).set3 (w.heap.size + 1 + 1) (fun h x e => by have := HG5.out h x e; omega) (.int .i64 u.k) (.int .u32 u.ad) (.int .u32 u.bit)
    rw [← hW] at hcx hv
    obtain ⟨⟨y0, y1, y2, y3⟩, ⟨v0, v1, v2⟩, -, -⟩ := hcx.cells
    unfold set3 set4 at hW
    rw [← hW]
    clear hW
    exact bodyPost_ret (v := .tuple #[.agg #[.int .i64 KL, .slice ca CL.length cc, .int .u32 ad, .slice ra rn rc], .agg #[.int .i64 u.k, .int .u32 u.ad, .int .u32 u.bit], .int .i64 EL]) (by simp [results, Try.results30, go_sem, y0, y1, y2, y3, v0, v1, v2]) rfl ⟨KL, ca, CL.length, cc, ad, ra, rn, rc, u.k, u.ad, u.bit, rfl, hcx.below.drew, fun _ => ⟨rfl, rfl, hv.later (Below.refl _ _).drew, HZ4.out, (fun h x e => by have := HG5.out h x e; omega), rfl, rfl, rfl⟩⟩
  · rw [if_neg hE]
    have hE2 : ((E : Int) == 0) = false := by simp; omega
    have hE3 : ¬ (E : Int) = 0 := by omega
    go_enter Try.func30, Try.ntmps30
    go_upto_region 1 with fail
    rw [← hwa]
    clear hwa
    go_upto_region 10 with (first | (go_at_call 34; refine HT1.out.mono ?_; rintro r w1 ⟨rfl, HX1, HB1⟩; obtain ⟨x0, x1, x2, -⟩ := tb_box HX1.out; obtain ⟨⟨p0, p1, p2, p3⟩, ⟨n0, n1, n2⟩, ⟨p4, p5, p6, p7⟩, ⟨n4, n5, n6⟩⟩ := HB1.out.cx.cells; obtain ⟨⟨a0, a1, a2⟩, -, -, -, -⟩ := HB1.out.cells) | (go_at_call 36; refine (HDS.out _ HB1.out).mono ?_; rintro r w2 ⟨rfl, HB2⟩; obtain ⟨⟨p0, p1, p2, p3⟩, ⟨n0, n1, n2⟩, ⟨p4, p5, p6, p7⟩, ⟨n4, n5, n6⟩⟩ := HB2.out.cx.cells))
    have HC2 := hidden (HB2.out.cx.setN (.int .i64 u.k) (.int .u32 u.ad) (.int .u32 u.bit))
    unfold set3 at HC2
    generalize ((w2.setCell ⟨w.heap.size + 1 + 1, 0, none⟩ (.int .i64 u.k)).setCell ⟨w.heap.size + 1 + 1, 1, none⟩ (.int .u32 u.ad)).setCell ⟨w.heap.size + 1 + 1, 2, none⟩ (.int .u32 u.bit) = w3 at *
    clear HDS HB2 HB1 HX1 HT1 p0 p1 p2 p3 n0 n1 n2 p4 p5 p6 p7 n4 n5 n6 x0 x1 x2 a0 a1 a2
    obtain ⟨⟨p0, p1, p2, p3⟩, ⟨n0, n1, n2⟩, ⟨p4, p5, p6, p7⟩, ⟨n4, n5, n6⟩⟩ := HC2.out.cells
    go_upto_region 11 with fail
    go_region
    go_wp2
    obtain ⟨W, hW⟩ : ∃ W, W = set3 (set4 w3 (w.heap.size + 1) (.int .i64 0) (.slice none 0 0) (.int .u32 0) (.slice none 0 0)) (w.heap.size + 1 + 1) (.int .i64 u.k) (.int .u32 u.ad) (.int .u32 u.bit) := ⟨_, rfl⟩
    have hcx := (HC2.out.setP (.int .i64 0) (.slice none 0 0) (.int .u32 0) (.slice none 0 0)).setN (.int .i64 u.k) (.int .u32 u.ad) (.int .u32 u.bit)
    rw [← hW] at hcx
    obtain ⟨⟨y0, y1, y2, y3⟩, ⟨v0, v1, v2⟩, -, -⟩ := hcx.cells
    unfold set3 set4 at hW
    rw [← hW]
    clear hW
    exact bodyPost_ret (v := .tuple #[.agg #[.int .i64 0, .slice none 0 0, .int .u32 0, .slice none 0 0], .agg #[.int .i64 u.k, .int .u32 u.ad, .int .u32 u.bit], .int .i64 E]) (by simp [results, Try.results30, go_sem, y0, y1, y2, y3, v0, v1, v2]) rfl (prt_no hcx.below.drew hE 0 none 0 0 0 none 0 0 u.k u.ad u.bit)
end Go.Proofs.Ytbifolpahmeaeaa
