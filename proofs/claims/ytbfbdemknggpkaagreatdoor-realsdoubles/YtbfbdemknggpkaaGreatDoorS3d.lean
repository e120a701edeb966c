/- Contract of the document's exact (package grottoref03): what a pattern says as an exact number. -/
import Derived.Test.YtbfbdemknggpkaaGreatDoorS3c
namespace Go.Proofs.YtbfbdemknggpkaaGreatDoor
open Go.RowKit
set_option maxRecDepth 100000
set_option maxHeartbeats 2000000
set_option linter.unusedVariables false

/-- a fresh box of an exact number -/
def ZRs (w : World) (b : Nat) : Prop := w.cell? ⟨b, 0, none⟩ = some (.int .i64 0) ∧ w.cell? ⟨b, 1, none⟩ = some (.slice none 0 0) ∧ w.cell? ⟨b, 2, none⟩ = some (.int .i64 0) ∧ w.frozen? ⟨b, 0, none⟩ = false ∧ w.frozen? ⟨b, 1, none⟩ = false ∧ w.frozen? ⟨b, 2, none⟩ = false
theorem zr_of {X w2 : World} (hb : Below X.heap.size X w2) (b : Nat) (h : ZRs X b) : ZRs w2 b := by
  obtain ⟨h0, h1, h2, k0, k1, k2⟩ := h
  have hl : b < X.heap.size := World.block_lt_of_cell? _ _ h0
  exact ⟨cellLater hb h0, cellLater hb h1, cellLater hb h2, (hb.frozen hl).trans k0, (hb.frozen hl).trans k1, (hb.frozen hl).trans k2⟩
theorem zr_fresh (X : World) : ZRs (X.alloc (.cells #[.int .i64 0, .slice none 0 0, .int .i64 0] 61)) X.heap.size := by unfold ZRs; simp
/-- three cells of a block written -/
def set3 (X : World) (b : Nat) (a0 a1 a2 : Value) : World := ((X.setCell ⟨b, 0, none⟩ a0).setCell ⟨b, 1, none⟩ a1).setCell ⟨b, 2, none⟩ a2
theorem set3_far (X : World) (b : Nat) (a0 a1 a2 : Value) (c i : Nat) (h : ¬ b = c) : (set3 X b a0 a1 a2).cell? ⟨c, i, none⟩ = X.cell? ⟨c, i, none⟩ := by
  unfold set3
  rw [World.cell?_setCell_far _ _ _ _ h, World.cell?_setCell_far _ _ _ _ h, World.cell?_setCell_far _ _ _ _ h]
theorem set3_at (X : World) (b : Nat) (a0 a1 a2 u0 u1 u2 : Value) (h0 : X.cell? ⟨b, 0, none⟩ = some u0) (h1 : X.cell? ⟨b, 1, none⟩ = some u1) (h2 : X.cell? ⟨b, 2, none⟩ = some u2) :
    (set3 X b a0 a1 a2).cell? ⟨b, 0, none⟩ = some a0 ∧ (set3 X b a0 a1 a2).cell? ⟨b, 1, none⟩ = some a1 ∧ (set3 X b a0 a1 a2).cell? ⟨b, 2, none⟩ = some a2 := by
  have o : ∀ (Y : World) (i j : Nat) (v : Value), i ≠ j → (Y.setCell ⟨b, i, none⟩ v).cell? ⟨b, j, none⟩ = Y.cell? ⟨b, j, none⟩ := fun Y i j v hij => World.cell?_setCell_other _ _ _ _ (fun h => hij (congrArg Addr.off h))
  unfold set3
  refine ⟨?_, ?_, ?_⟩
  · rw [o _ 2 0 _ (by decide), o _ 1 0 _ (by decide)]; exact World.cell?_setCell_same _ _ _ h0
  · rw [o _ 2 1 _ (by decide)]; exact World.cell?_setCell_same _ _ _ (by rw [o _ 0 1 _ (by decide)]; exact h1)
  · exact World.cell?_setCell_same _ _ _ (by rw [o _ 1 2 _ (by decide), o _ 0 2 _ (by decide)]; exact h2)
theorem set3_below {B : Nat} {a X : World} (h : Below B a X) (b : Nat) (hb : B ≤ b) (a0 a1 a2 : Value) : Below B a (set3 X b a0 a1 a2) :=
  ((h.setCell (p := ⟨b, 0, none⟩) hb _).setCell (p := ⟨b, 1, none⟩) hb _).setCell (p := ⟨b, 2, none⟩) hb _
/-- digits that do not lie in the block that is written -/
theorem rd_set3 {w : World} {a : Option Addr} {l c : Nat} {ds : List Int} (h : RdD w a l c ds) (b : Nat) (a0 a1 a2 : Value) (hn : ∀ p, a = some p → ¬ b = p.block) : RdD (set3 w b a0 a1 a2) a l c ds := by
  obtain ⟨h1, h2, h3⟩ := h
  refine ⟨h1, h2, ?_⟩
  rcases h3 with h3 | ⟨g, off, rfl, hc⟩
  · exact .inl h3
  · exact .inr ⟨g, off, rfl, fun i hi => (set3_far w b a0 a1 a2 g (off + i) (hn _ rfl)).trans (hc i hi)⟩
def sgnI (n : Bool) : Int := if n then -1 else 1
theorem exact_any (K E M : Int) (n : Bool) (w : World) (a0 : 0 ≤ M) (a1 : M ≤ 18446744073709551615) :
    Calls Tryz.prog 38 #[partsV K n E M] w fun r w' => ∃ a l c ds, r = .returned (.agg #[.int .i64 (sgnI n), .slice a l c, .int .i64 E]) ∧ HasNat w' a l c ds M ∧ l ≤ 4 ∧ Below w.heap.size w w' ∧ ∀ p, a = some p → w.heap.size ≤ p.block := by
  cases n
  · have hW : Below (w.alloc (.cells #[.int .i64 K, .bool false, .int .i64 E, .int .u64 M] 53)).heap.size (w.alloc (.cells #[.int .i64 K, .bool false, .int .i64 E, .int .u64 M] 53)) ((w.alloc (.cells #[.int .i64 K, .bool false, .int .i64 E, .int .u64 M] 53)).alloc (.cells #[.int .i64 0, .slice none 0 0, .int .i64 0] 61)) := (Below.refl _ _).alloc (Nat.le_refl _) _
    have HB := hidden ((((Below.refl _ _).alloc (Nat.le_refl _) _).alloc (by simp) _) : Below w.heap.size w ((w.alloc (.cells #[.int .i64 K, .bool false, .int .i64 E, .int .u64 M] 53)).alloc (.cells #[.int .i64 0, .slice none 0 0, .int .i64 0] 61)))
    have p3 : ((w.alloc (.cells #[.int .i64 K, .bool false, .int .i64 E, .int .u64 M] 53)).alloc (.cells #[.int .i64 0, .slice none 0 0, .int .i64 0] 61)).cell? ⟨w.heap.size, 3, none⟩ = some (.int .u64 M) := cellLater hW (by simp)
    have p2 : ((w.alloc (.cells #[.int .i64 K, .bool false, .int .i64 E, .int .u64 M] 53)).alloc (.cells #[.int .i64 0, .slice none 0 0, .int .i64 0] 61)).cell? ⟨w.heap.size, 2, none⟩ = some (.int .i64 E) := cellLater hW (by simp)
    have zr : ZRs ((w.alloc (.cells #[.int .i64 K, .bool false, .int .i64 E, .int .u64 M] 53)).alloc (.cells #[.int .i64 0, .slice none 0 0, .int .i64 0] 61)) (w.heap.size + 1) := by
      have h := zr_fresh (w.alloc (.cells #[.int .i64 K, .bool false, .int .i64 E, .int .u64 M] 53))
      simpa using h
    have hsz : ((w.alloc (.cells #[.int .i64 K, .bool false, .int .i64 E, .int .u64 M] 53)).alloc (.cells #[.int .i64 0, .slice none 0 0, .int .i64 0] 61)).heap.size = w.heap.size + 2 := by simp
    have ZR := hidden zr
    clear hW zr
    go_enter Tryz.func38, Tryz.ntmps38
    go_upto_region 4 with fail
    generalize ((w.alloc (.cells #[.int .i64 K, .bool false, .int .i64 E, .int .u64 M] 53)).alloc (.cells #[.int .i64 0, .slice none 0 0, .int .i64 0] 61)) = w5 at *
    have nb : ¬ w.heap.size + 1 = w.heap.size := by omega
    go_region_held3 (fun w' => w'.cell? ⟨w.heap.size, 3, none⟩ = some (.int .u64 M) ∧ w'.cell? ⟨w.heap.size, 2, none⟩ = some (.int .i64 E)) (go_keep) (first | (go_at_call 45; refine (natOf_any M _ a0 a1).mono ?_; rintro r w6 ⟨ah, lh, ch, dh, rfl, rh, kh, vh, lbh, th, hb6, nw6⟩; have p3 : w6.cell? ⟨w.heap.size, 3, none⟩ = some (.int .u64 M) := cellLater hb6 (by go_keep); have p2 : w6.cell? ⟨w.heap.size, 2, none⟩ = some (.int .i64 E) := cellLater hb6 (by go_keep); have zz := zr_of hb6 _ (zr_of ((Below.refl _ _).drew) _ ZR.out); obtain ⟨z0, z1, z2, z3, z4, z5⟩ := zz))
    all_goals
      have hne : ∀ p, ah = some p → ¬ w.heap.size + 1 = p.block := fun p hp => by
        have := nw6 p hp
        simp [hsz] at this
        omega
      have hn2 : ∀ p, ah = some p → w.heap.size ≤ p.block := fun p hp => by
        have := nw6 p hp
        simp [hsz] at this
        omega
      obtain ⟨i0, i1, i2⟩ := set3_at w6 (w.heap.size + 1) (.int .i64 (1)) (.slice ah lh ch) (.int .i64 E) _ _ _ z0 z1 z2
      have hH := has_of3 (rd_set3 rh (w.heap.size + 1) (.int .i64 (1)) (.slice ah lh ch) (.int .i64 E) hne) kh vh th
      have h0 := HB.out.drew
      have h1 := h0.trans (hb6.mono h0.size)
      have h2 := set3_below h1 (w.heap.size + 1) (by omega) (.int .i64 (1)) (.slice ah lh ch) (.int .i64 E)
      have HH := hidden hH
      have HF := hidden h2
      have HN := hidden hn2
      clear hH h0 h1 h2 hb6 rh kh vh th nw6 hne hn2 z0 z1 z2 z3 z4 z5
      go_wp2
      change bodyPost _ _ _ _ _ (set3 w6 (w.heap.size + 1) (.int .i64 (1)) (.slice ah lh ch) (.int .i64 E))
      generalize set3 w6 (w.heap.size + 1) (.int .i64 (1)) (.slice ah lh ch) (.int .i64 E) = wf at *
      refine bodyPost_ret (v := .agg #[.int .i64 (1), .slice ah lh ch, .int .i64 E]) (by simp [results, Tryz.results38, go_sem, i0, i1, i2]) rfl ?_
      exact ⟨ah, lh, ch, dh, rfl, HH.out, lbh, HF.out, HN.out⟩
  · have hW : Below (w.alloc (.cells #[.int .i64 K, .bool true, .int .i64 E, .int .u64 M] 53)).heap.size (w.alloc (.cells #[.int .i64 K, .bool true, .int .i64 E, .int .u64 M] 53)) ((w.alloc (.cells #[.int .i64 K, .bool true, .int .i64 E, .int .u64 M] 53)).alloc (.cells #[.int .i64 0, .slice none 0 0, .int .i64 0] 61)) := (Below.refl _ _).alloc (Nat.le_refl _) _
    have HB := hidden ((((Below.refl _ _).alloc (Nat.le_refl _) _).alloc (by simp) _) : Below w.heap.size w ((w.alloc (.cells #[.int .i64 K, .bool true, .int .i64 E, .int .u64 M] 53)).alloc (.cells #[.int .i64 0, .slice none 0 0, .int .i64 0] 61)))
    have p3 : ((w.alloc (.cells #[.int .i64 K, .bool true, .int .i64 E, .int .u64 M] 53)).alloc (.cells #[.int .i64 0, .slice none 0 0, .int .i64 0] 61)).cell? ⟨w.heap.size, 3, none⟩ = some (.int .u64 M) := cellLater hW (by simp)
    have p2 : ((w.alloc (.cells #[.int .i64 K, .bool true, .int .i64 E, .int .u64 M] 53)).alloc (.cells #[.int .i64 0, .slice none 0 0, .int .i64 0] 61)).cell? ⟨w.heap.size, 2, none⟩ = some (.int .i64 E) := cellLater hW (by simp)
    have zr : ZRs ((w.alloc (.cells #[.int .i64 K, .bool true, .int .i64 E, .int .u64 M] 53)).alloc (.cells #[.int .i64 0, .slice none 0 0, .int .i64 0] 61)) (w.heap.size + 1) := by
      have h := zr_fresh (w.alloc (.cells #[.int .i64 K, .bool true, .int .i64 E, .int .u64 M] 53))
      simpa using h
    have hsz : ((w.alloc (.cells #[.int .i64 K, .bool true, .int .i64 E, .int .u64 M] 53)).alloc (.cells #[.int .i64 0, .slice none 0 0, .int .i64 0] 61)).heap.size = w.heap.size + 2 := by simp
    have ZR := hidden zr
    clear hW zr
    go_enter Tryz.func38, Tryz.ntmps38
    go_upto_region 4 with fail
    generalize ((w.alloc (.cells #[.int .i64 K, .bool true, .int .i64 E, .int .u64 M] 53)).alloc (.cells #[.int .i64 0, .slice none 0 0, .int .i64 0] 61)) = w5 at *
    have nb : ¬ w.heap.size + 1 = w.heap.size := by omega
    go_region_held3 (fun w' => w'.cell? ⟨w.heap.size, 3, none⟩ = some (.int .u64 M) ∧ w'.cell? ⟨w.heap.size, 2, none⟩ = some (.int .i64 E)) (go_keep) (first | (go_at_call 45; refine (natOf_any M _ a0 a1).mono ?_; rintro r w6 ⟨ah, lh, ch, dh, rfl, rh, kh, vh, lbh, th, hb6, nw6⟩; have p3 : w6.cell? ⟨w.heap.size, 3, none⟩ = some (.int .u64 M) := cellLater hb6 (by go_keep); have p2 : w6.cell? ⟨w.heap.size, 2, none⟩ = some (.int .i64 E) := cellLater hb6 (by go_keep); have zz := zr_of hb6 _ (zr_of ((Below.refl _ _).drew) _ ZR.out); obtain ⟨z0, z1, z2, z3, z4, z5⟩ := zz))
    all_goals
      have hne : ∀ p, ah = some p → ¬ w.heap.size + 1 = p.block := fun p hp => by
        have := nw6 p hp
        simp [hsz] at this
        omega
      have hn2 : ∀ p, ah = some p → w.heap.size ≤ p.block := fun p hp => by
        have := nw6 p hp
        simp [hsz] at this
        omega
      obtain ⟨i0, i1, i2⟩ := set3_at w6 (w.heap.size + 1) (.int .i64 (-1)) (.slice ah lh ch) (.int .i64 E) _ _ _ z0 z1 z2
      have hH := has_of3 (rd_set3 rh (w.heap.size + 1) (.int .i64 (-1)) (.slice ah lh ch) (.int .i64 E) hne) kh vh th
      have h0 := HB.out.drew
      have h1 := h0.trans (hb6.mono h0.size)
      have h2 := set3_below h1 (w.heap.size + 1) (by omega) (.int .i64 (-1)) (.slice ah lh ch) (.int .i64 E)
      have HH := hidden hH
      have HF := hidden h2
      have HN := hidden hn2
      clear hH h0 h1 h2 hb6 rh kh vh th nw6 hne hn2 z0 z1 z2 z3 z4 z5
      go_wp2
      change bodyPost _ _ _ _ _ (set3 w6 (w.heap.size + 1) (.int .i64 (-1)) (.slice ah lh ch) (.int .i64 E))
      generalize set3 w6 (w.heap.size + 1) (.int .i64 (-1)) (.slice ah lh ch) (.int .i64 E) = wf at *
      refine bodyPost_ret (v := .agg #[.int .i64 (-1), .slice ah lh ch, .int .i64 E]) (by simp [results, Tryz.results38, go_sem, i0, i1, i2]) rfl ?_
      exact ⟨ah, lh, ch, dh, rfl, HH.out, lbh, HF.out, HN.out⟩
end Go.Proofs.YtbfbdemknggpkaaGreatDoor
