/- Contracts of package text's behindBit, plainPiece, Begin. -/
import Derived.Test.YtbifolpahmeaeaaB12e
import Derived.Deep.Cut
import Derived.Deep.CutRange
namespace Go.Proofs.Ytbifolpahmeaeaa
open Go.RowKit
set_option maxHeartbeats 1000000
set_option maxRecDepth 100000
set_option linter.unusedVariables false

/-- a place in a text -/
structure Ta where
  k : Int
  ad : Nat
  bit : Nat
def Ta.val (t : Ta) : Value := .agg #[.int .i64 t.k, .int .u32 t.ad, .int .u32 t.bit]
def Ta.ok (t : Ta) : Prop := (-9223372036854775808 ≤ t.k ∧ t.k ≤ 9223372036854775807) ∧ t.ad < 4294967296 ∧ t.bit < 4294967296
def ta0 : Ta := ⟨0, 0, 0⟩
/-- the place of the next bit -/
def bhd (t : Ta) : Ta := if t.bit = 7 then ⟨t.k, (t.ad + 1) % 4294967296, 0⟩ else ⟨t.k, t.ad, (t.bit + 1) % 4294967296⟩
theorem tbehind_any (t : Ta) (w : World) (ht : t.ok) :
    Calls Try.prog 40 #[.agg #[.int .i64 t.k, .int .u32 t.ad, .int .u32 t.bit]] w fun r w' => r = .returned (.agg #[.int .i64 (bhd t).k, .int .u32 (bhd t).ad, .int .u32 (bhd t).bit]) ∧ Below w.heap.size w w' := by
  obtain ⟨k, ad, bit⟩ := t
  obtain ⟨h1, h2, h3⟩ := ht
  simp only at h1 h2 h3
  unfold bhd
  simp only
  by_cases hb : bit = 7
  · subst hb
    rw [if_pos rfl]
    have hw : IntKind.u32.wrap ((ad : Int) + 1) = (((ad + 1) % 4294967296 : Nat) : Int) := by rw [IntKind.wrap_u32]; omega
    generalize (ad + 1) % 4294967296 = A at *
    go_enter Try.func40, Try.ntmps40
    go_wp2
    exact bodyPost_ret (v := .agg #[.int .i64 k, .int .u32 A, .int .u32 0]) (by simp [results, Try.results40, go_sem]) rfl ⟨rfl, ((Below.refl _ _).alloc (Nat.le_refl _) _).alloc (by simp) _⟩
  · rw [if_neg hb]
    have hw : IntKind.u32.wrap ((bit : Int) + 1) = (((bit + 1) % 4294967296 : Nat) : Int) := by rw [IntKind.wrap_u32]; omega
    have hb2 : ((bit : Int) == 7) = false := by simp; omega
    have hb3 : ¬ (bit : Int) = 7 := by omega
    generalize (bit + 1) % 4294967296 = A at *
    go_enter Try.func40, Try.ntmps40
    go_wp2
    exact bodyPost_ret (v := .agg #[.int .i64 k, .int .u32 ad, .int .u32 A]) (by simp [results, Try.results40, go_sem]) rfl ⟨rfl, ((Below.refl _ _).alloc (Nat.le_refl _) _).alloc (by simp) _⟩
/-- what plainPiece and packedPiece answer, and Next: the error, the piece's kind and characters, the place behind -/
structure Nx where
  e : Nat
  k : Nat
  cs : List Nat
  t : Ta
def PRet (w : World) (N : Nx) (r : Ending) (w' : World) : Prop :=
  ∃ k ca cn cc ad ra rn rc k' ad' bit', r = .returned (.tuple #[.agg #[.int .i64 k, .slice ca cn cc, .int .u32 ad, .slice ra rn rc], .agg #[.int .i64 k', .int .u32 ad', .int .u32 bit'], .int .i64 N.e]) ∧ Below w.heap.size w w' ∧ (N.e = 0 → k = (N.k : Int) ∧ cn = N.cs.length ∧ VRow w' ca cn N.cs ∧ (cn ≤ cc ∧ (cn = 0 → ca = none ∧ cc = 0)) ∧ (0 < cn → ∀ x, ca = some x → w.heap.size ≤ x.block) ∧ (k' = N.t.k ∧ ad' = (N.t.ad : Int) ∧ bit' = (N.t.bit : Int)))
/-- a piece of a text of bytes or numbers -/
def plN (zs : List Int) (t : Ta) (n : Nat) : Nx := ⟨tkE zs t.ad 0 n, if tkV zs t.ad 0 n = 0 then 1 else 2, if tkV zs t.ad 0 n = 0 then [] else [tkV zs t.ad 0 n], ⟨t.k, tkP zs t.ad 0 n, 0⟩⟩
theorem al_below (w : World) (o : Obj) : Below w.heap.size w (w.alloc o) := (Below.refl _ _).alloc (Nat.le_refl _) _
theorem VRow.later {w w' : World} {ca : Option Addr} {m : Nat} {xs : List Nat} (h : VRow w ca m xs) (hb : Below w.heap.size w w') : VRow w' ca m xs := ⟨h.ln, h.bd, fun i hi => by obtain ⟨b, o, e, hc⟩ := h.cells i hi; exact ⟨b, o, e, cellLater hb hc⟩⟩
/-- boxes of a call's own: a place, the piece and the place that are to be told -/
structure Bx (w w' : World) (t : Ta) : Prop where
  at_ : ABox w' w.heap.size t.k t.ad t.bit
  p : PBox w' (w.heap.size + 1) (.int .i64 0) (.slice none 0 0) (.int .u32 0) (.slice none 0 0)
  n : ABox w' (w.heap.size + 1 + 1) 0 0 0
  below : Below w.heap.size w w'
theorem Bx.new (w : World) (t : Ta) : Bx w (((w.alloc (.cells #[.int .i64 t.k, .int .u32 t.ad, .int .u32 t.bit] 46)).alloc (.cells #[.int .i64 0, .slice none 0 0, .int .u32 0, .slice none 0 0] 44)).alloc (.cells #[.int .i64 0, .int .u32 0, .int .u32 0] 46)) t := by
  have h0 := ab_new w t.k t.ad t.bit
  have h1 := pb_new (w.alloc (.cells #[.int .i64 t.k, .int .u32 t.ad, .int .u32 t.bit] 46)) (.int .i64 0) (.slice none 0 0) (.int .u32 0) (.slice none 0 0)
  have h2 := ab_new ((w.alloc (.cells #[.int .i64 t.k, .int .u32 t.ad, .int .u32 t.bit] 46)).alloc (.cells #[.int .i64 0, .slice none 0 0, .int .u32 0, .slice none 0 0] 44)) 0 0 0
  refine ⟨(h0.later (al_below _ _)).later (al_below _ _), ?_, ?_, ((((Below.refl w.heap.size w).alloc (Nat.le_refl _) _).alloc (by simp) _).alloc (by simp; omega) _)⟩
  · have := h1.later (al_below _ (.cells #[.int .i64 0, .int .u32 0, .int .u32 0] 46))
    simpa using this
  · simpa using h2
theorem Bx.later {w w1 w2 : World} {t : Ta} (h : Bx w w1 t) (hb : Below w1.heap.size w1 w2) : Bx w w2 t := ⟨h.at_.later hb, h.p.later hb, h.n.later hb, h.below.trans (hb.mono h.below.size)⟩
theorem Bx.fr {w w1 w2 : World} {t : Ta} {R : Nat} (h : Bx w w1 t) (f : FR R w1 w2) (hR : w.heap.size + 1 + 1 < R) : Bx w w2 t :=
  ⟨h.at_.fr f (by omega), h.p.fr f (by omega), h.n.fr f (by omega), h.below.trans (f.below h.below.size (fun k e => by omega))⟩
theorem Bx.cells {w w1 : World} {t : Ta} (h : Bx w w1 t) : (w1.cell? ⟨w.heap.size, 0, none⟩ = some (.int .i64 t.k) ∧ w1.cell? ⟨w.heap.size, 1, none⟩ = some (.int .u32 t.ad) ∧ w1.cell? ⟨w.heap.size, 2, none⟩ = some (.int .u32 t.bit)) ∧ (w1.cell? ⟨w.heap.size + 1, 0, none⟩ = some (.int .i64 0) ∧ w1.cell? ⟨w.heap.size + 1, 1, none⟩ = some (.slice none 0 0) ∧ w1.cell? ⟨w.heap.size + 1, 2, none⟩ = some (.int .u32 0) ∧ w1.cell? ⟨w.heap.size + 1, 3, none⟩ = some (.slice none 0 0)) ∧ (w1.cell? ⟨w.heap.size + 1 + 1, 0, none⟩ = some (.int .i64 0) ∧ w1.cell? ⟨w.heap.size + 1 + 1, 1, none⟩ = some (.int .u32 0) ∧ w1.cell? ⟨w.heap.size + 1 + 1, 2, none⟩ = some (.int .u32 0)) ∧ (∀ j, w1.frozen? ⟨w.heap.size + 1, j, none⟩ = false) ∧ (∀ j, w1.frozen? ⟨w.heap.size + 1 + 1, j, none⟩ = false) := by
  obtain ⟨a0, a1, a2, _⟩ := ab_box h.at_
  obtain ⟨p0, p1, p2, p3, fp⟩ := pb_box h.p
  obtain ⟨n0, n1, n2, fn⟩ := ab_box h.n
  exact ⟨⟨a0, a1, a2⟩, ⟨p0, p1, p2, p3⟩, ⟨n0, n1, n2⟩, fp, fn⟩
theorem heap_set (w : World) (q j k : Nat) (u : Value) (h : k ≠ q) : (w.setCell ⟨q, j, none⟩ u).heap[k]? = w.heap[k]? := by
  simp [World.setCell, Array.getElem?_modify, h.symm]
/-- the three cells of a place are written -/
def set3 (w : World) (q : Nat) (u0 u1 u2 : Value) : World := ((w.setCell ⟨q, 0, none⟩ u0).setCell ⟨q, 1, none⟩ u1).setCell ⟨q, 2, none⟩ u2
theorem ab_set {w : World} {q : Nat} {k : Int} {ad bit : Nat} (h : ABox w q k ad bit) (k' : Int) (ad' bit' : Nat) : ABox (set3 w q (.int .i64 k') (.int .u32 ad') (.int .u32 bit')) q k' ad' bit' := by
  have h' : w.heap[q]? = _ := h
  show (World.setCell _ _ _).heap[q]? = _
  simp [World.setCell, Array.getElem?_modify, h']
theorem ab_setV {w : World} {q : Nat} {k : Int} {ad bit : Nat} (h : ABox w q k ad bit) (y0 y1 y2 : Value) : (set3 w q y0 y1 y2).heap[q]? = some (.cells #[y0, y1, y2] 46 (0, 0)) := by
  have h' : w.heap[q]? = _ := h
  show (World.setCell _ _ _).heap[q]? = _
  simp [World.setCell, Array.getElem?_modify, h']
theorem Bx.fin {w w2 : World} {t : Ta} (h : Bx w w2 t) (u0 u1 u2 u3 y0 y1 y2 : Value) (W : World) (hW : W = (set3 (set4 w2 (w.heap.size + 1) u0 u1 u2 u3) (w.heap.size + 1 + 1) y0 y1 y2)) :
    Below w.heap.size w W ∧ W.cell? ⟨w.heap.size + 1, 0, none⟩ = some u0 ∧ W.cell? ⟨w.heap.size + 1, 1, none⟩ = some u1 ∧ W.cell? ⟨w.heap.size + 1, 2, none⟩ = some u2 ∧ W.cell? ⟨w.heap.size + 1, 3, none⟩ = some u3 ∧ W.cell? ⟨w.heap.size + 1 + 1, 0, none⟩ = some y0 ∧ W.cell? ⟨w.heap.size + 1 + 1, 1, none⟩ = some y1 ∧ W.cell? ⟨w.heap.size + 1 + 1, 2, none⟩ = some y2 := by
  have h1 : PBox (set4 w2 (w.heap.size + 1) u0 u1 u2 u3) (w.heap.size + 1) u0 u1 u2 u3 := pb_set h.p u0 u1 u2 u3
  have hn : ∀ (wz : World) (jj : Nat) (u : Value), (wz.setCell ⟨w.heap.size + 1, jj, none⟩ u).heap[w.heap.size + 1 + 1]? = wz.heap[w.heap.size + 1 + 1]? := fun wz jj u => heap_set wz _ jj _ u (by omega)
  have hp : ∀ (wz : World) (jj : Nat) (u : Value), (wz.setCell ⟨w.heap.size + 1 + 1, jj, none⟩ u).heap[w.heap.size + 1]? = wz.heap[w.heap.size + 1]? := fun wz jj u => heap_set wz _ jj _ u (by omega)
  have h2 : ABox (set4 w2 (w.heap.size + 1) u0 u1 u2 u3) (w.heap.size + 1 + 1) 0 0 0 := by
    unfold ABox set4
    rw [hn, hn, hn, hn]
    exact h.n
  have h4 := ab_setV h2 y0 y1 y2
  have hb := h.below.trans (set4_below (B := w.heap.size) w2 (w.heap.size + 1) (by omega) u0 u1 u2 u3)
  have h3 : PBox W (w.heap.size + 1) u0 u1 u2 u3 := by
    rw [hW]
    unfold PBox set3
    rw [hp, hp, hp]
    exact h1
  have hb2 : Below w.heap.size w W := by
    rw [hW]
    exact ((hb.setCell (Nat.le_trans (Nat.le_succ _) (Nat.le_succ _)) _).setCell (Nat.le_trans (Nat.le_succ _) (Nat.le_succ _)) _).setCell (Nat.le_trans (Nat.le_succ _) (Nat.le_succ _)) _
  rw [← hW] at h4
  clear hW h2 hb hn hp h1
  obtain ⟨z0, z1, z2, z3, _⟩ := pb_box h3
  refine ⟨hb2, z0, z1, z2, z3, ?_⟩
  simp [World.cell?, h4]
theorem VRow.set3 {w : World} {ca : Option Addr} {m : Nat} {xs : List Nat} (h : VRow w ca m xs) (q : Nat) (hne : 0 < m → ∀ x, ca = some x → x.block ≠ q) (u0 u1 u2 : Value) : VRow (set3 w q u0 u1 u2) ca m xs := by
  refine ⟨h.ln, h.bd, fun i hi => ?_⟩
  obtain ⟨b, o, e, hc⟩ := h.cells i hi
  have hb : b ≠ q := hne (by omega) _ e
  refine ⟨b, o, e, ?_⟩
  have key : ∀ (w1 : World) (j : Nat) (u : Value), (w1.setCell ⟨q, j, none⟩ u).cell? ⟨b, o + i, none⟩ = w1.cell? ⟨b, o + i, none⟩ := fun w1 j u => World.cell?_setCell_other _ _ _ _ (fun e => hb (congrArg Addr.block e).symm)
  show (World.setCell _ _ _).cell? _ = _
  rw [key, key, key, hc]
end Go.Proofs.Ytbifolpahmeaeaa
