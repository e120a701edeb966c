/- Contract of package text's leaf. -/
import Derived.Test.YtbifolpahmeaeaaB12d
namespace Go.Proofs.Ytbifolpahmeaeaa
open Go.RowKit
set_option maxHeartbeats 1000000
set_option maxRecDepth 100000
set_option linter.unusedVariables false

/-- what a leaf tells: the error, the piece's kind, its characters -/
def lfR (zs : List Int) (p : Nat) : Nat × Nat × List Nat :=
  if nuV zs p 1 = 1 then (0, 1, [])
  else if nuV zs p 1 = 2 then (tkE zs (p + 1) 0 1, 2, [tkV zs (p + 1) 0 1])
  else if nuV zs p 1 = 3 then ((upz zs 1 (zs.length + 1) (p + 1)).2, 2, (upz zs 1 (zs.length + 1) (p + 1)).1)
  else if nuV zs p 1 = 4 then (tkE zs (p + 1) 0 4, 2, [tkV zs (p + 1) 0 4])
  else if nuV zs p 1 = 5 then ((upz zs 4 (zs.length + 1) (p + 1)).2, 2, (upz zs 4 (zs.length + 1) (p + 1)).1)
  else if nuV zs p 1 = 8 then (tkE zs (p + 1) 0 4, 3, [])
  else if nuV zs p 1 = 9 then (faE zs (p + 1) 0, 3, [])
  else if nuV zs p 1 = 10 then (agE zs (tkP zs (p + 1) 0 4) (tkE zs (p + 1) 0 4), 3, [])
  else if nuV zs p 1 = 11 then (agE zs (tkP zs (p + 1) 0 4) (faE zs (p + 1) 0), 3, [])
  else (120, 0, [])
/-- what leaf answers -/
def LRet (w : World) (R : Nat) (a : Option Addr) (n c : Nat) (L : Nat × Nat × List Nat) (r : Ending) (w' : World) : Prop :=
  ∃ ca cc ad ra rn rc p', r = .returned (.agg #[.int .i64 (L.2.1 : Int), .slice ca L.2.2.length cc, .int .u32 ad, .slice ra rn rc]) ∧ TBox w' R a n c p' L.1 ∧ FR R w w' ∧ VRow w' ca L.2.2.length L.2.2 ∧ (L.2.2.length ≤ cc ∧ (L.2.2.length = 0 → ca = none ∧ cc = 0)) ∧ (0 < L.2.2.length → ∀ x, ca = some x → w.heap.size < x.block)
theorem tkV_bd (zs : List Int) (hb : OkB zs) (p e k : Nat) (hk : k = 1 ∨ k = 4) : tkV zs p e k < 4294967296 := by
  unfold tkV
  split
  · exact (nuV_bd zs hb p k hk).2
  · omega
theorem tkP_le {zs : List Int} {p e k : Nat} (hp : p ≤ zs.length) : tkP zs p e k ≤ zs.length := by
  unfold tkP
  split
  · rename_i h
    unfold tkE at h
    split at h
    · split at h
      · assumption
      · omega
    · omega
  · exact hp
theorem vrow_nil (w : World) (a : Option Addr) : VRow w a 0 [] := ⟨rfl, fun x hx => by simp at hx, fun i hi => by omega⟩
theorem lret_none {w w' : World} {R : Nat} {a : Option Addr} {n c : Nat} {k e : Nat} {ad : Int} {ra : Option Addr} {rn rc p' : Nat} (hx : TBox w' R a n c p' e) (hf : FR R w w') : LRet w R a n c (e, k, []) (.returned (.agg #[.int .i64 (k : Int), .slice none 0 0, .int .u32 ad, .slice ra rn rc])) w' :=
  ⟨none, 0, ad, ra, rn, rc, p', rfl, hx, hf, vrow_nil _ _, ⟨Nat.le_refl _, fun _ => ⟨rfl, rfl⟩⟩, fun h => by simp at h⟩
/-- a piece laid over one in memory of the call's own -/
theorem pb_set {w : World} {q : Nat} {v0 v1 v2 v3 : Value} (h : PBox w q v0 v1 v2 v3) (u0 u1 u2 u3 : Value) : PBox ((((w.setCell ⟨q, 0, none⟩ u0).setCell ⟨q, 1, none⟩ u1).setCell ⟨q, 2, none⟩ u2).setCell ⟨q, 3, none⟩ u3) q u0 u1 u2 u3 := by
  have h' : w.heap[q]? = _ := h
  show (World.setCell _ _ _).heap[q]? = _
  simp [World.setCell, Array.getElem?_modify, h']
/-- the four cells of a piece are written -/
def set4 (w : World) (q : Nat) (u0 u1 u2 u3 : Value) : World := (((w.setCell ⟨q, 0, none⟩ u0).setCell ⟨q, 1, none⟩ u1).setCell ⟨q, 2, none⟩ u2).setCell ⟨q, 3, none⟩ u3
theorem set4_below {B : Nat} (w : World) (q : Nat) (h : B ≤ q) (u0 u1 u2 u3 : Value) : Below B w (set4 w q u0 u1 u2 u3) := ((((Below.refl B w).setCell h _).setCell h _).setCell h _).setCell h _
theorem VRow.set4 {w : World} {ca : Option Addr} {m : Nat} {xs : List Nat} (h : VRow w ca m xs) (q : Nat) (hne : 0 < m → ∀ x, ca = some x → x.block ≠ q) (u0 u1 u2 u3 : Value) : VRow (set4 w q u0 u1 u2 u3) ca m xs := by
  refine ⟨h.ln, h.bd, fun i hi => ?_⟩
  obtain ⟨b, o, e, hc⟩ := h.cells i hi
  have hb : b ≠ q := hne (by omega) _ e
  refine ⟨b, o, e, ?_⟩
  have key : ∀ (w1 : World) (j : Nat) (u : Value), (w1.setCell ⟨q, j, none⟩ u).cell? ⟨b, o + i, none⟩ = w1.cell? ⟨b, o + i, none⟩ := fun w1 j u => World.cell?_setCell_other _ _ _ _ (fun e => hb (congrArg Addr.block e).symm)
  show (World.setCell _ _ _).cell? _ = _
  rw [key, key, key, key, hc]
theorem leaf_fin {w w3 : World} {R : Nat} {a : Option Addr} {n c p' e : Nat} (hx : TBox w3 R a n c p' e) (hf : FR R w w3) (hR : R < w.heap.size) (k : Nat) (ca : Option Addr) (cc : Nat) (ad : Int) (ra : Option Addr) (rn rc : Nat) (xs : List Nat) (hv : VRow w3 ca xs.length xs) (hne : 0 < xs.length → ∀ x, ca = some x → w.heap.size < x.block) (h0 : xs.length ≤ cc ∧ (xs.length = 0 → ca = none ∧ cc = 0)) :
    LRet w R a n c (e, k, xs) (.returned (.agg #[.int .i64 (k : Int), .slice ca xs.length cc, .int .u32 ad, .slice ra rn rc])) (set4 w3 w.heap.size (.int .i64 (k : Int)) (.slice ca xs.length cc) (.int .u32 ad) (.slice ra rn rc)) := by
  have hb := set4_below (B := w.heap.size) w3 w.heap.size (Nat.le_refl _) (.int .i64 (k : Int)) (.slice ca xs.length cc) (.int .u32 ad) (.slice ra rn rc)
  exact ⟨ca, cc, ad, ra, rn, rc, p', rfl, hx.low hb hR, hf.low hb, hv.set4 _ (fun h x e => by have := hne h x e; omega) _ _ _ _, h0, hne⟩
/-- how leaf stands: the reader, the piece that is to be told -/
def LSt (w : World) (R : Nat) (a : Option Addr) (n c p e : Nat) (w' : World) : Prop := TBox w' R a n c p e ∧ FR R w w' ∧ PBox w' w.heap.size (.int .i64 0) (.slice none 0 0) (.int .u32 0) (.slice none 0 0)
theorem LSt.next {w w1 w2 : World} {R : Nat} {a : Option Addr} {n c p e p2 e2 : Nat} (h : LSt w R a n c p e w1) (hR : R < w.heap.size) (hx : TBox w2 R a n c p2 e2) (hf : FR R w1 w2) : LSt w R a n c p2 e2 w2 := ⟨hx, h.2.1.trans hf, h.2.2.fr hf (by omega)⟩
theorem LSt.later {w w1 w2 : World} {R : Nat} {a : Option Addr} {n c p e : Nat} (h : LSt w R a n c p e w1) (hb : Below w1.heap.size w1 w2) : LSt w R a n c p e w2 := ⟨h.1.later hb, h.2.1.later hb, h.2.2.later hb⟩
theorem LSt.cells {w w1 : World} {R : Nat} {a : Option Addr} {n c p e : Nat} (h : LSt w R a n c p e w1) : w1.cell? ⟨w.heap.size, 0, none⟩ = some (.int .i64 0) ∧ w1.cell? ⟨w.heap.size, 1, none⟩ = some (.slice none 0 0) ∧ w1.cell? ⟨w.heap.size, 2, none⟩ = some (.int .u32 0) ∧ w1.cell? ⟨w.heap.size, 3, none⟩ = some (.slice none 0 0) ∧ w1.frozen? ⟨w.heap.size, 0, none⟩ = false ∧ w1.frozen? ⟨w.heap.size, 1, none⟩ = false ∧ w1.frozen? ⟨w.heap.size, 2, none⟩ = false ∧ w1.frozen? ⟨w.heap.size, 3, none⟩ = false := by
  obtain ⟨c0, c1, c2, c3, f⟩ := pb_box h.2.2
  exact ⟨c0, c1, c2, c3, f 0, f 1, f 2, f 3⟩
theorem LSt.end {w w1 : World} {R : Nat} {a : Option Addr} {n c p e : Nat} (h : LSt w R a n c p e w1) (u0 u1 u2 u3 : Value) : (set4 w1 w.heap.size u0 u1 u2 u3).cell? ⟨w.heap.size, 0, none⟩ = some u0 ∧ (set4 w1 w.heap.size u0 u1 u2 u3).cell? ⟨w.heap.size, 1, none⟩ = some u1 ∧ (set4 w1 w.heap.size u0 u1 u2 u3).cell? ⟨w.heap.size, 2, none⟩ = some u2 ∧ (set4 w1 w.heap.size u0 u1 u2 u3).cell? ⟨w.heap.size, 3, none⟩ = some u3 := by
  obtain ⟨c0, c1, c2, c3, f⟩ := pb_box (pb_set h.2.2 u0 u1 u2 u3)
  exact ⟨c0, c1, c2, c3⟩
theorem leaf_first (R : Nat) (a : Option Addr) (n c p : Nat) (zs : List Int) (w : World) (hbx : TBox w R a n c p 0) (hm : Mem w a n c zs) (hp : p < n) (t : Nat) (ht : nuV zs p 1 = t) :
    Calls Try.prog 34 #[.pointer (some ⟨R, 0, none⟩), .int .i64 1] (w.alloc (.cells #[.int .i64 0, .slice none 0 0, .int .u32 0, .slice none 0 0] 44)) fun r w' => r = .returned (.int .u32 (t : Int)) ∧ LSt w R a n c (p + 1) 0 w' := by
  have hl := hm.len
  have hle := hm.le
  have hRl := hbx.lt
  have hz : p + 1 ≤ zs.length := by omega
  have hb : Below w.heap.size w (w.alloc (.cells #[.int .i64 0, .slice none 0 0, .int .u32 0, .slice none 0 0] 44)) := (Below.refl _ _).alloc (Nat.le_refl _) _
  have := ttake1 R a n c p 0 zs _ (hbx.later hb) (hm.later hb) (by omega)
  rw [tkV_ok hz, tkP_ok hz, tkE_ok hz, ht] at this
  exact this.mono (fun r w' hh => ⟨hh.1, hh.2.1, (Fm.same hb).trans hh.2.2, (pb_new w _ _ _ _).fr hh.2.2 (by omega)⟩)
theorem leaf_chars {w w2 : World} {R : Nat} {a : Option Addr} {n c p e : Nat} (h : LSt w R a n c p e w2) (V : Nat) (hV : V < 4294967296) :
    Calls Try.prog 35 #[.slice (some ⟨w2.heap.size, 0, none⟩) 1 1] (w2.alloc (.cells #[.int .u32 (V : Int)] 22)) fun r w' => r = .returned (.agg #[.int .i64 2, .slice (some ⟨w2.heap.size, 0, none⟩) 1 1, .int .u32 0, .slice none 0 0]) ∧ LSt w R a n c p e w' ∧ VRow w' (some ⟨w2.heap.size, 0, none⟩) 1 [V] ∧ w.heap.size < w2.heap.size := by
  have hb : Below w2.heap.size w2 (w2.alloc (.cells #[.int .u32 (V : Int)] 22)) := (Below.refl _ _).alloc (Nat.le_refl _) _
  refine (tchars_any _ 1 1 _).mono ?_
  rintro r w' ⟨rfl, hb2⟩
  have hv := vrow_new w2 V hV
  have hlt := h.2.2.lt
  exact ⟨rfl, (h.later hb).later hb2, ⟨hv.ln, hv.bd, fun i hi => by obtain ⟨b, o, e, hc⟩ := hv.cells i hi; exact ⟨b, o, e, cellLater hb2 hc⟩⟩, hlt⟩
theorem own_le {B : Nat} {w : World} {e : TypeId} {a : Option Addr} {n c : Nat} {xs : List Value} (h : w.ownsRow B e 1 (.slice a n c) n xs) : n ≤ c := by
  rcases h.2 with ⟨h1, h2⟩ | ⟨g, cap, cur, h1, _, _, h4, _⟩
  · simp only [Value.slice.injEq] at h1; omega
  · simp only [Value.slice.injEq] at h1; omega
theorem leaf_row {w w2 w3 : World} {R : Nat} {a : Option Addr} {n c p p2 e : Nat} {a' : Option Addr} {c' : Nat} {xs : List Nat} (h : LSt w R a n c p 0 w2) (hR : R < w.heap.size) (ho : w3.ownsRow w2.heap.size 22 1 (.slice a' xs.length c') xs.length (u32V xs)) (hx : TBox w3 R a n c p2 e) (hf : FR R w2 w3) (hxs : ∀ x ∈ xs, x < 4294967296) (hz : xs.length = 0 → a' = none ∧ c' = 0) :
    Calls Try.prog 35 #[.slice a' xs.length c'] w3 fun r w' => r = .returned (.agg #[.int .i64 2, .slice a' xs.length c', .int .u32 0, .slice none 0 0]) ∧ LSt w R a n c p2 e w' ∧ VRow w' a' xs.length xs ∧ (0 < xs.length → ∀ x, a' = some x → w.heap.size < x.block) ∧ (xs.length ≤ c' ∧ (xs.length = 0 → a' = none ∧ c' = 0)) := by
  refine (tchars_any a' xs.length c' w3).mono ?_
  rintro r w' ⟨rfl, hb2⟩
  have hlt := h.2.2.lt
  refine ⟨rfl, (h.next hR hx hf).later hb2, own32_v (own_later ho hb2) hxs, fun _ x e => ?_, own_le ho, hz⟩
  subst e
  have := (ho.lt x.block rfl).1
  omega

theorem tleaf_1 (R : Nat) (a : Option Addr) (n c p : Nat) (zs : List Int) (w : World) (hbx : TBox w R a n c p 0) (hm : Mem w a n c zs) (hR : 0 < n → ∀ x, a = some x → x.block ≠ R) (hp : p < n) (ht : nuV zs p 1 = 1) :
    Calls Try.prog 37 #[.pointer (some ⟨R, 0, none⟩)] w (LRet w R a n c (lfR zs p)) := by
  have hl := hm.len
  have hle := hm.le
  have hRl := hbx.lt
  have HT0 : Hid (Calls Try.prog 34 #[.pointer (some ⟨R, 0, none⟩), .int .i64 1] (w.alloc (.cells #[.int .i64 0, .slice none 0 0, .int .u32 0, .slice none 0 0] 44)) fun r w' => r = .returned (.int .u32 1) ∧ LSt w R a n c (p + 1) 0 w') := leaf_first R a n c p zs w hbx hm hp 1 ht
  unfold lfR
  rw [if_pos ht]
  clear hm hbx ht
  go_enter Try.func37, Try.ntmps37
  go_wp2_with (first | (go_at_call 34; (with_reducible refine HT0.out.mono ?_); rintro r w1 ⟨rfl, l1⟩; obtain ⟨c0, c1, c2, c3, f0, f1, f2, f3⟩ := l1.cells; have L1 := hidden l1; clear l1))
  obtain ⟨z0, z1, z2, z3⟩ := L1.out.end (.int .i64 1) (.slice none 0 0) (.int .u32 0) (.slice none 0 0)
  unfold set4 at z0 z1 z2 z3
  exact bodyPost_ret (v := .agg #[.int .i64 1, .slice none 0 0, .int .u32 0, .slice none 0 0]) (by simp [results, Try.results37, go_sem, z0, z1, z2, z3]) rfl (leaf_fin L1.out.1 L1.out.2.1 hRl 1 (none) 0 0 (none) 0 0 [] (vrow_nil _ _) (fun h => by simp at h) ⟨Nat.le_refl _, fun _ => ⟨rfl, rfl⟩⟩)

theorem tleaf_2 (R : Nat) (a : Option Addr) (n c p : Nat) (zs : List Int) (w : World) (hbx : TBox w R a n c p 0) (hm : Mem w a n c zs) (hR : 0 < n → ∀ x, a = some x → x.block ≠ R) (hp : p < n) (ht : nuV zs p 1 = 2) :
    Calls Try.prog 37 #[.pointer (some ⟨R, 0, none⟩)] w (LRet w R a n c (lfR zs p)) := by
  have hl := hm.len
  have hle := hm.le
  have hRl := hbx.lt
  have HT0 : Hid (Calls Try.prog 34 #[.pointer (some ⟨R, 0, none⟩), .int .i64 1] (w.alloc (.cells #[.int .i64 0, .slice none 0 0, .int .u32 0, .slice none 0 0] 44)) fun r w' => r = .returned (.int .u32 2) ∧ LSt w R a n c (p + 1) 0 w') := leaf_first R a n c p zs w hbx hm hp 2 ht
  unfold lfR
  rw [if_neg (by rw [ht]; decide), if_pos ht]
  have HT1 := hidden fun w1 (l : LSt w R a n c (p + 1) 0 w1) => (ttake1 R a n c (p + 1) 0 zs w1 l.1 (hm.fr hR l.2.1) (by omega)).mono (fun r w' hh => (⟨hh.1, l.next hRl hh.2.1 hh.2.2⟩ : r = .returned (.int .u32 (tkV zs (p + 1) 0 1)) ∧ LSt w R a n c (tkP zs (p + 1) 0 1) (tkE zs (p + 1) 0 1) w'))
  have hVb := tkV_bd zs hm.ok (p + 1) 0 1 (by omega)
  clear hm hbx ht
  generalize tkV zs (p + 1) 0 1 = V at *
  generalize tkP zs (p + 1) 0 1 = P at *
  generalize tkE zs (p + 1) 0 1 = E at *
  go_enter Try.func37, Try.ntmps37
  go_wp2_with (first | (go_at_call 34; (with_reducible refine HT0.out.mono ?_); rintro r w1 ⟨rfl, l1⟩; obtain ⟨c0, c1, c2, c3, f0, f1, f2, f3⟩ := l1.cells; have L1 := hidden l1; clear l1) | (go_at_call 34; refine (HT1.out _ L1.out).mono ?_; rintro r w2 ⟨rfl, l2⟩; have HCH := hidden (leaf_chars l2 V hVb); clear l2) | (go_at_call 35; refine HCH.out.mono ?_; rintro r w3 ⟨rfl, l3, v3, n3⟩; obtain ⟨c0, c1, c2, c3, f0, f1, f2, f3⟩ := l3.cells; have L3 := hidden l3; have V3 := hidden v3; have N3 := hidden n3; clear l3 v3 n3))
  obtain ⟨z0, z1, z2, z3⟩ := L3.out.end (.int .i64 2) (.slice (some ⟨w2.heap.size, 0, none⟩) 1 1) (.int .u32 0) (.slice none 0 0)
  unfold set4 at z0 z1 z2 z3
  exact bodyPost_ret (v := .agg #[.int .i64 2, .slice (some ⟨w2.heap.size, 0, none⟩) 1 1, .int .u32 0, .slice none 0 0]) (by simp [results, Try.results37, go_sem, z0, z1, z2, z3]) rfl (leaf_fin L3.out.1 L3.out.2.1 hRl 2 ((some ⟨w2.heap.size, 0, none⟩)) 1 0 (none) 0 0 [V] V3.out (fun _ x e => by cases e; exact N3.out) ⟨Nat.le_refl _, fun h => by simp at h⟩)

theorem tleaf_4 (R : Nat) (a : Option Addr) (n c p : Nat) (zs : List Int) (w : World) (hbx : TBox w R a n c p 0) (hm : Mem w a n c zs) (hR : 0 < n → ∀ x, a = some x → x.block ≠ R) (hp : p < n) (ht : nuV zs p 1 = 4) :
    Calls Try.prog 37 #[.pointer (some ⟨R, 0, none⟩)] w (LRet w R a n c (lfR zs p)) := by
  have hl := hm.len
  have hle := hm.le
  have hRl := hbx.lt
  have HT0 : Hid (Calls Try.prog 34 #[.pointer (some ⟨R, 0, none⟩), .int .i64 1] (w.alloc (.cells #[.int .i64 0, .slice none 0 0, .int .u32 0, .slice none 0 0] 44)) fun r w' => r = .returned (.int .u32 4) ∧ LSt w R a n c (p + 1) 0 w') := leaf_first R a n c p zs w hbx hm hp 4 ht
  unfold lfR
  rw [if_neg (by rw [ht]; decide), if_neg (by rw [ht]; decide), if_neg (by rw [ht]; decide), if_pos ht]
  have HT1 := hidden fun w1 (l : LSt w R a n c (p + 1) 0 w1) => (ttake4 R a n c (p + 1) 0 zs w1 l.1 (hm.fr hR l.2.1) (by omega)).mono (fun r w' hh => (⟨hh.1, l.next hRl hh.2.1 hh.2.2⟩ : r = .returned (.int .u32 (tkV zs (p + 1) 0 4)) ∧ LSt w R a n c (tkP zs (p + 1) 0 4) (tkE zs (p + 1) 0 4) w'))
  have hVb := tkV_bd zs hm.ok (p + 1) 0 4 (by omega)
  clear hm hbx ht
  generalize tkV zs (p + 1) 0 4 = V at *
  generalize tkP zs (p + 1) 0 4 = P at *
  generalize tkE zs (p + 1) 0 4 = E at *
  go_enter Try.func37, Try.ntmps37
  go_wp2_with (first | (go_at_call 34; (with_reducible refine HT0.out.mono ?_); rintro r w1 ⟨rfl, l1⟩; obtain ⟨c0, c1, c2, c3, f0, f1, f2, f3⟩ := l1.cells; have L1 := hidden l1; clear l1) | (go_at_call 34; refine (HT1.out _ L1.out).mono ?_; rintro r w2 ⟨rfl, l2⟩; have HCH := hidden (leaf_chars l2 V hVb); clear l2) | (go_at_call 35; refine HCH.out.mono ?_; rintro r w3 ⟨rfl, l3, v3, n3⟩; obtain ⟨c0, c1, c2, c3, f0, f1, f2, f3⟩ := l3.cells; have L3 := hidden l3; have V3 := hidden v3; have N3 := hidden n3; clear l3 v3 n3))
  obtain ⟨z0, z1, z2, z3⟩ := L3.out.end (.int .i64 2) (.slice (some ⟨w2.heap.size, 0, none⟩) 1 1) (.int .u32 0) (.slice none 0 0)
  unfold set4 at z0 z1 z2 z3
  exact bodyPost_ret (v := .agg #[.int .i64 2, .slice (some ⟨w2.heap.size, 0, none⟩) 1 1, .int .u32 0, .slice none 0 0]) (by simp [results, Try.results37, go_sem, z0, z1, z2, z3]) rfl (leaf_fin L3.out.1 L3.out.2.1 hRl 2 ((some ⟨w2.heap.size, 0, none⟩)) 1 0 (none) 0 0 [V] V3.out (fun _ x e => by cases e; exact N3.out) ⟨Nat.le_refl _, fun h => by simp at h⟩)

theorem tleaf_3 (R : Nat) (a : Option Addr) (n c p : Nat) (zs : List Int) (w : World) (hbx : TBox w R a n c p 0) (hm : Mem w a n c zs) (hR : 0 < n → ∀ x, a = some x → x.block ≠ R) (hp : p < n) (ht : nuV zs p 1 = 3) :
    Calls Try.prog 37 #[.pointer (some ⟨R, 0, none⟩)] w (LRet w R a n c (lfR zs p)) := by
  have hl := hm.len
  have hle := hm.le
  have hRl := hbx.lt
  have HT0 : Hid (Calls Try.prog 34 #[.pointer (some ⟨R, 0, none⟩), .int .i64 1] (w.alloc (.cells #[.int .i64 0, .slice none 0 0, .int .u32 0, .slice none 0 0] 44)) fun r w' => r = .returned (.int .u32 3) ∧ LSt w R a n c (p + 1) 0 w') := leaf_first R a n c p zs w hbx hm hp 3 ht
  unfold lfR
  rw [if_neg (by rw [ht]; decide), if_neg (by rw [ht]; decide), if_pos ht]
  have HT1 : Hid (∀ w1, LSt w R a n c (p + 1) 0 w1 → Calls Try.prog 41 #[.pointer (some ⟨R, 0, none⟩), .int .i64 1] w1 fun r w' => ∃ a' c' p', r = .returned (.slice a' (upz zs 1 (zs.length + 1) (p + 1)).1.length c') ∧ w'.ownsRow w1.heap.size 22 1 (.slice a' (upz zs 1 (zs.length + 1) (p + 1)).1.length c') (upz zs 1 (zs.length + 1) (p + 1)).1.length (u32V (upz zs 1 (zs.length + 1) (p + 1)).1) ∧ TBox w' R a n c p' (upz zs 1 (zs.length + 1) (p + 1)).2 ∧ FR R w1 w' ∧ ((upz zs 1 (zs.length + 1) (p + 1)).1.length = 0 → a' = none ∧ c' = 0)) := fun w1 l => by
    rw [hl]
    exact tup_any R a n c (p + 1) 1 zs w1 l.1 (hm.fr hR l.2.1) hR (by omega) (by omega)
  have HXB := hidden (upz_bd zs hm.ok 1 (by omega) (zs.length + 1) (p + 1))
  clear hm hbx ht
  generalize upz zs 1 (zs.length + 1) (p + 1) = U at *
  obtain ⟨xs, E⟩ := U
  simp only at HT1 HXB ⊢
  go_enter Try.func37, Try.ntmps37
  go_wp2_with (first | (go_at_call 34; (with_reducible refine HT0.out.mono ?_); rintro r w1 ⟨rfl, l1⟩; obtain ⟨c0, c1, c2, c3, f0, f1, f2, f3⟩ := l1.cells; have L1 := hidden l1; clear l1) | (go_at_call 41; refine (HT1.out _ L1.out).mono ?_; rintro r w2 ⟨a', c', p', rfl, ho, hx, hf, hz⟩; have HCH := hidden (leaf_row L1.out hRl ho hx hf HXB.out hz); clear ho hx hf hz) | (go_at_call 35; refine HCH.out.mono ?_; rintro r w3 ⟨rfl, l3, v3, n3, n4⟩; obtain ⟨c0, c1, c2, c3, f0, f1, f2, f3⟩ := l3.cells; have L3 := hidden l3; have V3 := hidden v3; have N3 := hidden n3; have N4 := hidden n4; clear l3 v3 n3 n4))
  obtain ⟨z0, z1, z2, z3⟩ := L3.out.end (.int .i64 2) (.slice a' xs.length c') (.int .u32 0) (.slice none 0 0)
  unfold set4 at z0 z1 z2 z3
  exact bodyPost_ret (v := .agg #[.int .i64 2, .slice a' xs.length c', .int .u32 0, .slice none 0 0]) (by simp [results, Try.results37, go_sem, z0, z1, z2, z3]) rfl (leaf_fin L3.out.1 L3.out.2.1 hRl 2 (a') c' 0 (none) 0 0 xs V3.out N3.out N4.out)

theorem tleaf_5 (R : Nat) (a : Option Addr) (n c p : Nat) (zs : List Int) (w : World) (hbx : TBox w R a n c p 0) (hm : Mem w a n c zs) (hR : 0 < n → ∀ x, a = some x → x.block ≠ R) (hp : p < n) (ht : nuV zs p 1 = 5) :
    Calls Try.prog 37 #[.pointer (some ⟨R, 0, none⟩)] w (LRet w R a n c (lfR zs p)) := by
  have hl := hm.len
  have hle := hm.le
  have hRl := hbx.lt
  have HT0 : Hid (Calls Try.prog 34 #[.pointer (some ⟨R, 0, none⟩), .int .i64 1] (w.alloc (.cells #[.int .i64 0, .slice none 0 0, .int .u32 0, .slice none 0 0] 44)) fun r w' => r = .returned (.int .u32 5) ∧ LSt w R a n c (p + 1) 0 w') := leaf_first R a n c p zs w hbx hm hp 5 ht
  unfold lfR
  rw [if_neg (by rw [ht]; decide), if_neg (by rw [ht]; decide), if_neg (by rw [ht]; decide), if_neg (by rw [ht]; decide), if_pos ht]
  have HT1 : Hid (∀ w1, LSt w R a n c (p + 1) 0 w1 → Calls Try.prog 41 #[.pointer (some ⟨R, 0, none⟩), .int .i64 4] w1 fun r w' => ∃ a' c' p', r = .returned (.slice a' (upz zs 4 (zs.length + 1) (p + 1)).1.length c') ∧ w'.ownsRow w1.heap.size 22 1 (.slice a' (upz zs 4 (zs.length + 1) (p + 1)).1.length c') (upz zs 4 (zs.length + 1) (p + 1)).1.length (u32V (upz zs 4 (zs.length + 1) (p + 1)).1) ∧ TBox w' R a n c p' (upz zs 4 (zs.length + 1) (p + 1)).2 ∧ FR R w1 w' ∧ ((upz zs 4 (zs.length + 1) (p + 1)).1.length = 0 → a' = none ∧ c' = 0)) := fun w1 l => by
    rw [hl]
    exact tup_any R a n c (p + 1) 4 zs w1 l.1 (hm.fr hR l.2.1) hR (by omega) (by omega)
  have HXB := hidden (upz_bd zs hm.ok 4 (by omega) (zs.length + 1) (p + 1))
  clear hm hbx ht
  generalize upz zs 4 (zs.length + 1) (p + 1) = U at *
  obtain ⟨xs, E⟩ := U
  simp only at HT1 HXB ⊢
  go_enter Try.func37, Try.ntmps37
  go_wp2_with (first | (go_at_call 34; (with_reducible refine HT0.out.mono ?_); rintro r w1 ⟨rfl, l1⟩; obtain ⟨c0, c1, c2, c3, f0, f1, f2, f3⟩ := l1.cells; have L1 := hidden l1; clear l1) | (go_at_call 41; refine (HT1.out _ L1.out).mono ?_; rintro r w2 ⟨a', c', p', rfl, ho, hx, hf, hz⟩; have HCH := hidden (leaf_row L1.out hRl ho hx hf HXB.out hz); clear ho hx hf hz) | (go_at_call 35; refine HCH.out.mono ?_; rintro r w3 ⟨rfl, l3, v3, n3, n4⟩; obtain ⟨c0, c1, c2, c3, f0, f1, f2, f3⟩ := l3.cells; have L3 := hidden l3; have V3 := hidden v3; have N3 := hidden n3; have N4 := hidden n4; clear l3 v3 n3 n4))
  obtain ⟨z0, z1, z2, z3⟩ := L3.out.end (.int .i64 2) (.slice a' xs.length c') (.int .u32 0) (.slice none 0 0)
  unfold set4 at z0 z1 z2 z3
  exact bodyPost_ret (v := .agg #[.int .i64 2, .slice a' xs.length c', .int .u32 0, .slice none 0 0]) (by simp [results, Try.results37, go_sem, z0, z1, z2, z3]) rfl (leaf_fin L3.out.1 L3.out.2.1 hRl 2 (a') c' 0 (none) 0 0 xs V3.out N3.out N4.out)

theorem tleaf_8 (R : Nat) (a : Option Addr) (n c p : Nat) (zs : List Int) (w : World) (hbx : TBox w R a n c p 0) (hm : Mem w a n c zs) (hR : 0 < n → ∀ x, a = some x → x.block ≠ R) (hp : p < n) (ht : nuV zs p 1 = 8) :
    Calls Try.prog 37 #[.pointer (some ⟨R, 0, none⟩)] w (LRet w R a n c (lfR zs p)) := by
  have hl := hm.len
  have hle := hm.le
  have hRl := hbx.lt
  have HT0 : Hid (Calls Try.prog 34 #[.pointer (some ⟨R, 0, none⟩), .int .i64 1] (w.alloc (.cells #[.int .i64 0, .slice none 0 0, .int .u32 0, .slice none 0 0] 44)) fun r w' => r = .returned (.int .u32 8) ∧ LSt w R a n c (p + 1) 0 w') := leaf_first R a n c p zs w hbx hm hp 8 ht
  unfold lfR
  rw [if_neg (by rw [ht]; decide), if_neg (by rw [ht]; decide), if_neg (by rw [ht]; decide), if_neg (by rw [ht]; decide), if_neg (by rw [ht]; decide), if_pos ht]
  have HT1 := hidden fun w1 (l : LSt w R a n c (p + 1) 0 w1) => (ttake4 R a n c (p + 1) 0 zs w1 l.1 (hm.fr hR l.2.1) (by omega)).mono (fun r w' hh => (⟨hh.1, l.next hRl hh.2.1 hh.2.2⟩ : r = .returned (.int .u32 (tkV zs (p + 1) 0 4)) ∧ LSt w R a n c (tkP zs (p + 1) 0 4) (tkE zs (p + 1) 0 4) w'))
  clear hm hbx ht
  generalize tkV zs (p + 1) 0 4 = V at *
  generalize tkP zs (p + 1) 0 4 = P at *
  generalize tkE zs (p + 1) 0 4 = E at *
  go_enter Try.func37, Try.ntmps37
  go_wp2_with (first | (go_at_call 34; (with_reducible refine HT0.out.mono ?_); rintro r w1 ⟨rfl, l1⟩; obtain ⟨c0, c1, c2, c3, f0, f1, f2, f3⟩ := l1.cells; have L1 := hidden l1; clear l1) | (go_at_call 34; refine (HT1.out _ L1.out).mono ?_; rintro r w2 ⟨rfl, l2⟩; obtain ⟨c0, c1, c2, c3, f0, f1, f2, f3⟩ := l2.cells; have L2 := hidden l2; clear l2))
  obtain ⟨z0, z1, z2, z3⟩ := L2.out.end (.int .i64 3) (.slice none 0 0) (.int .u32 V) (.slice none 0 0)
  unfold set4 at z0 z1 z2 z3
  exact bodyPost_ret (v := .agg #[.int .i64 3, .slice none 0 0, .int .u32 V, .slice none 0 0]) (by simp [results, Try.results37, go_sem, z0, z1, z2, z3]) rfl (leaf_fin L2.out.1 L2.out.2.1 hRl 3 (none) 0 V (none) 0 0 [] (vrow_nil _ _) (fun h => by simp at h) ⟨Nat.le_refl _, fun _ => ⟨rfl, rfl⟩⟩)

theorem tleaf_9 (R : Nat) (a : Option Addr) (n c p : Nat) (zs : List Int) (w : World) (hbx : TBox w R a n c p 0) (hm : Mem w a n c zs) (hR : 0 < n → ∀ x, a = some x → x.block ≠ R) (hp : p < n) (ht : nuV zs p 1 = 9) :
    Calls Try.prog 37 #[.pointer (some ⟨R, 0, none⟩)] w (LRet w R a n c (lfR zs p)) := by
  have hl := hm.len
  have hle := hm.le
  have hRl := hbx.lt
  have HT0 : Hid (Calls Try.prog 34 #[.pointer (some ⟨R, 0, none⟩), .int .i64 1] (w.alloc (.cells #[.int .i64 0, .slice none 0 0, .int .u32 0, .slice none 0 0] 44)) fun r w' => r = .returned (.int .u32 9) ∧ LSt w R a n c (p + 1) 0 w') := leaf_first R a n c p zs w hbx hm hp 9 ht
  unfold lfR
  rw [if_neg (by rw [ht]; decide), if_neg (by rw [ht]; decide), if_neg (by rw [ht]; decide), if_neg (by rw [ht]; decide), if_neg (by rw [ht]; decide), if_neg (by rw [ht]; decide), if_pos ht]
  have HT1 : Hid (∀ w1, LSt w R a n c (p + 1) 0 w1 → Calls Try.prog 42 #[.pointer (some ⟨R, 0, none⟩)] w1 fun r w' => (∃ V : Nat, r = .returned (.int .u32 V)) ∧ LSt w R a n c (tkP zs (p + 1) 0 4) (faE zs (p + 1) 0) w') := fun w1 l => (tfar_any R a n c (p + 1) 0 zs w1 l.1 (hm.fr hR l.2.1) hR (by omega)).mono (fun r w' hh => ⟨hh.1, l.next hRl hh.2.1 hh.2.2⟩)
  clear hm hbx ht
  generalize tkP zs (p + 1) 0 4 = P at *
  generalize faE zs (p + 1) 0 = E at *
  go_enter Try.func37, Try.ntmps37
  go_wp2_with (first | (go_at_call 34; (with_reducible refine HT0.out.mono ?_); rintro r w1 ⟨rfl, l1⟩; obtain ⟨c0, c1, c2, c3, f0, f1, f2, f3⟩ := l1.cells; have L1 := hidden l1; clear l1) | (go_at_call 42; refine (HT1.out _ L1.out).mono ?_; rintro r w2 ⟨⟨V, rfl⟩, l2⟩; obtain ⟨c0, c1, c2, c3, f0, f1, f2, f3⟩ := l2.cells; have L2 := hidden l2; clear l2))
  obtain ⟨z0, z1, z2, z3⟩ := L2.out.end (.int .i64 3) (.slice none 0 0) (.int .u32 V) (.slice none 0 0)
  unfold set4 at z0 z1 z2 z3
  exact bodyPost_ret (v := .agg #[.int .i64 3, .slice none 0 0, .int .u32 V, .slice none 0 0]) (by simp [results, Try.results37, go_sem, z0, z1, z2, z3]) rfl (leaf_fin L2.out.1 L2.out.2.1 hRl 3 (none) 0 V (none) 0 0 [] (vrow_nil _ _) (fun h => by simp at h) ⟨Nat.le_refl _, fun _ => ⟨rfl, rfl⟩⟩)

theorem tleaf_10 (R : Nat) (a : Option Addr) (n c p : Nat) (zs : List Int) (w : World) (hbx : TBox w R a n c p 0) (hm : Mem w a n c zs) (hR : 0 < n → ∀ x, a = some x → x.block ≠ R) (hp : p < n) (ht : nuV zs p 1 = 10) :
    Calls Try.prog 37 #[.pointer (some ⟨R, 0, none⟩)] w (LRet w R a n c (lfR zs p)) := by
  have hl := hm.len
  have hle := hm.le
  have hRl := hbx.lt
  have HT0 : Hid (Calls Try.prog 34 #[.pointer (some ⟨R, 0, none⟩), .int .i64 1] (w.alloc (.cells #[.int .i64 0, .slice none 0 0, .int .u32 0, .slice none 0 0] 44)) fun r w' => r = .returned (.int .u32 10) ∧ LSt w R a n c (p + 1) 0 w') := leaf_first R a n c p zs w hbx hm hp 10 ht
  unfold lfR
  rw [if_neg (by rw [ht]; decide), if_neg (by rw [ht]; decide), if_neg (by rw [ht]; decide), if_neg (by rw [ht]; decide), if_neg (by rw [ht]; decide), if_neg (by rw [ht]; decide), if_neg (by rw [ht]; decide), if_pos ht]
  have HT1 := hidden fun w1 (l : LSt w R a n c (p + 1) 0 w1) => (ttake4 R a n c (p + 1) 0 zs w1 l.1 (hm.fr hR l.2.1) (by omega)).mono (fun r w' hh => (⟨hh.1, l.next hRl hh.2.1 hh.2.2⟩ : r = .returned (.int .u32 (tkV zs (p + 1) 0 4)) ∧ LSt w R a n c (tkP zs (p + 1) 0 4) (tkE zs (p + 1) 0 4) w'))
  have hPl : tkP zs (p + 1) 0 4 ≤ n := by rw [← hl]; exact tkP_le (by omega)
  have HT2 : Hid (∀ w1, LSt w R a n c (tkP zs (p + 1) 0 4) (tkE zs (p + 1) 0 4) w1 → Calls Try.prog 43 #[.pointer (some ⟨R, 0, none⟩)] w1 fun r w' => (∃ a' l' c', r = .returned (.slice a' l' c')) ∧ ∃ p', LSt w R a n c p' (agE zs (tkP zs (p + 1) 0 4) (tkE zs (p + 1) 0 4)) w') := fun w1 l => (targs_any R a n c _ _ zs w1 l.1 (hm.fr hR l.2.1) hR hPl).mono (fun r w' hh => ⟨hh.1, by obtain ⟨p', h⟩ := hh.2.1; exact ⟨p', l.next hRl h hh.2.2⟩⟩)
  clear hm hbx ht
  generalize agE zs (tkP zs (p + 1) 0 4) (tkE zs (p + 1) 0 4) = EA at *
  generalize tkV zs (p + 1) 0 4 = V at *
  generalize tkP zs (p + 1) 0 4 = P at *
  generalize tkE zs (p + 1) 0 4 = E at *
  go_enter Try.func37, Try.ntmps37
  go_wp2_with (first | (go_at_call 34; (with_reducible refine HT0.out.mono ?_); rintro r w1 ⟨rfl, l1⟩; obtain ⟨c0, c1, c2, c3, f0, f1, f2, f3⟩ := l1.cells; have L1 := hidden l1; clear l1) | (go_at_call 34; refine (HT1.out _ L1.out).mono ?_; rintro r w2 ⟨rfl, l2⟩; obtain ⟨c0, c1, c2, c3, f0, f1, f2, f3⟩ := l2.cells; have L2 := hidden l2; clear l2) | (go_at_call 43; refine (HT2.out _ L2.out).mono ?_; rintro r w3 ⟨⟨a3, l3, c3', rfl⟩, p3, ll3⟩; obtain ⟨c0, c1, c2, c3, f0, f1, f2, f3⟩ := ll3.cells; have L3 := hidden ll3; clear ll3))
  obtain ⟨z0, z1, z2, z3⟩ := L3.out.end (.int .i64 3) (.slice none 0 0) (.int .u32 V) (.slice a3 l3 c3')
  unfold set4 at z0 z1 z2 z3
  exact bodyPost_ret (v := .agg #[.int .i64 3, .slice none 0 0, .int .u32 V, .slice a3 l3 c3']) (by simp [results, Try.results37, go_sem, z0, z1, z2, z3]) rfl (leaf_fin L3.out.1 L3.out.2.1 hRl 3 (none) 0 V (a3) l3 c3' [] (vrow_nil _ _) (fun h => by simp at h) ⟨Nat.le_refl _, fun _ => ⟨rfl, rfl⟩⟩)

theorem tleaf_11 (R : Nat) (a : Option Addr) (n c p : Nat) (zs : List Int) (w : World) (hbx : TBox w R a n c p 0) (hm : Mem w a n c zs) (hR : 0 < n → ∀ x, a = some x → x.block ≠ R) (hp : p < n) (ht : nuV zs p 1 = 11) :
    Calls Try.prog 37 #[.pointer (some ⟨R, 0, none⟩)] w (LRet w R a n c (lfR zs p)) := by
  have hl := hm.len
  have hle := hm.le
  have hRl := hbx.lt
  have HT0 : Hid (Calls Try.prog 34 #[.pointer (some ⟨R, 0, none⟩), .int .i64 1] (w.alloc (.cells #[.int .i64 0, .slice none 0 0, .int .u32 0, .slice none 0 0] 44)) fun r w' => r = .returned (.int .u32 11) ∧ LSt w R a n c (p + 1) 0 w') := leaf_first R a n c p zs w hbx hm hp 11 ht
  unfold lfR
  rw [if_neg (by rw [ht]; decide), if_neg (by rw [ht]; decide), if_neg (by rw [ht]; decide), if_neg (by rw [ht]; decide), if_neg (by rw [ht]; decide), if_neg (by rw [ht]; decide), if_neg (by rw [ht]; decide), if_neg (by rw [ht]; decide), if_pos ht]
  have HT1 : Hid (∀ w1, LSt w R a n c (p + 1) 0 w1 → Calls Try.prog 42 #[.pointer (some ⟨R, 0, none⟩)] w1 fun r w' => (∃ V : Nat, r = .returned (.int .u32 V)) ∧ LSt w R a n c (tkP zs (p + 1) 0 4) (faE zs (p + 1) 0) w') := fun w1 l => (tfar_any R a n c (p + 1) 0 zs w1 l.1 (hm.fr hR l.2.1) hR (by omega)).mono (fun r w' hh => ⟨hh.1, l.next hRl hh.2.1 hh.2.2⟩)
  have hPl : tkP zs (p + 1) 0 4 ≤ n := by rw [← hl]; exact tkP_le (by omega)
  have HT2 : Hid (∀ w1, LSt w R a n c (tkP zs (p + 1) 0 4) (faE zs (p + 1) 0) w1 → Calls Try.prog 43 #[.pointer (some ⟨R, 0, none⟩)] w1 fun r w' => (∃ a' l' c', r = .returned (.slice a' l' c')) ∧ ∃ p', LSt w R a n c p' (agE zs (tkP zs (p + 1) 0 4) (faE zs (p + 1) 0)) w') := fun w1 l => (targs_any R a n c _ _ zs w1 l.1 (hm.fr hR l.2.1) hR hPl).mono (fun r w' hh => ⟨hh.1, by obtain ⟨p', h⟩ := hh.2.1; exact ⟨p', l.next hRl h hh.2.2⟩⟩)
  clear hm hbx ht
  generalize agE zs (tkP zs (p + 1) 0 4) (faE zs (p + 1) 0) = EA at *
  generalize tkP zs (p + 1) 0 4 = P at *
  generalize faE zs (p + 1) 0 = E at *
  go_enter Try.func37, Try.ntmps37
  go_wp2_with (first | (go_at_call 34; (with_reducible refine HT0.out.mono ?_); rintro r w1 ⟨rfl, l1⟩; obtain ⟨c0, c1, c2, c3, f0, f1, f2, f3⟩ := l1.cells; have L1 := hidden l1; clear l1) | (go_at_call 42; refine (HT1.out _ L1.out).mono ?_; rintro r w2 ⟨⟨V, rfl⟩, l2⟩; obtain ⟨c0, c1, c2, c3, f0, f1, f2, f3⟩ := l2.cells; have L2 := hidden l2; clear l2) | (go_at_call 43; refine (HT2.out _ L2.out).mono ?_; rintro r w3 ⟨⟨a3, l3, c3', rfl⟩, p3, ll3⟩; obtain ⟨c0, c1, c2, c3, f0, f1, f2, f3⟩ := ll3.cells; have L3 := hidden ll3; clear ll3))
  obtain ⟨z0, z1, z2, z3⟩ := L3.out.end (.int .i64 3) (.slice none 0 0) (.int .u32 V) (.slice a3 l3 c3')
  unfold set4 at z0 z1 z2 z3
  exact bodyPost_ret (v := .agg #[.int .i64 3, .slice none 0 0, .int .u32 V, .slice a3 l3 c3']) (by simp [results, Try.results37, go_sem, z0, z1, z2, z3]) rfl (leaf_fin L3.out.1 L3.out.2.1 hRl 3 (none) 0 V (a3) l3 c3' [] (vrow_nil _ _) (fun h => by simp at h) ⟨Nat.le_refl _, fun _ => ⟨rfl, rfl⟩⟩)

theorem tleaf_no (R : Nat) (a : Option Addr) (n c p : Nat) (zs : List Int) (w : World) (hbx : TBox w R a n c p 0) (hm : Mem w a n c zs) (hp : p < n) (ht : ∀ t ∈ [1, 2, 3, 4, 5, 8, 9, 10, 11], nuV zs p 1 ≠ t) :
    Calls Try.prog 37 #[.pointer (some ⟨R, 0, none⟩)] w (LRet w R a n c (lfR zs p)) := by
  have hRl := hbx.lt
  have HT0 : Hid (Calls Try.prog 34 #[.pointer (some ⟨R, 0, none⟩), .int .i64 1] (w.alloc (.cells #[.int .i64 0, .slice none 0 0, .int .u32 0, .slice none 0 0] 44)) fun r w' => r = .returned (.int .u32 (nuV zs p 1)) ∧ LSt w R a n c (p + 1) 0 w') := leaf_first R a n c p zs w hbx hm hp _ rfl
  have HT1 : Hid (∀ w1, LSt w R a n c (p + 1) 0 w1 → Calls Try.prog 39 #[.pointer (some ⟨R, 0, none⟩), .int .i64 120] w1 fun r w' => r = .returned (.tuple #[]) ∧ LSt w R a n c (p + 1) 120 w') := fun w1 l => (tfail_any R a n c _ 0 120 w1 l.1).mono (fun r w' hh => ⟨hh.1, l.next hRl hh.2.1 hh.2.2⟩)
  unfold lfR
  rw [if_neg (ht _ (by decide)), if_neg (ht _ (by decide)), if_neg (ht _ (by decide)), if_neg (ht _ (by decide)), if_neg (ht _ (by decide)), if_neg (ht _ (by decide)), if_neg (ht _ (by decide)), if_neg (ht _ (by decide)), if_neg (ht _ (by decide))]
  have b1 : (((nuV zs p 1 : Nat) : Int) == 1) = false := by have := ht 1 (by decide); simp; omega
  have b2 : (((nuV zs p 1 : Nat) : Int) == 2) = false := by have := ht 2 (by decide); simp; omega
  have b3 : (((nuV zs p 1 : Nat) : Int) == 3) = false := by have := ht 3 (by decide); simp; omega
  have b4 : (((nuV zs p 1 : Nat) : Int) == 4) = false := by have := ht 4 (by decide); simp; omega
  have b5 : (((nuV zs p 1 : Nat) : Int) == 5) = false := by have := ht 5 (by decide); simp; omega
  have b8 : (((nuV zs p 1 : Nat) : Int) == 8) = false := by have := ht 8 (by decide); simp; omega
  have b9 : (((nuV zs p 1 : Nat) : Int) == 9) = false := by have := ht 9 (by decide); simp; omega
  have b10 : (((nuV zs p 1 : Nat) : Int) == 10) = false := by have := ht 10 (by decide); simp; omega
  have b11 : (((nuV zs p 1 : Nat) : Int) == 11) = false := by have := ht 11 (by decide); simp; omega
  clear hm hbx ht
  generalize nuV zs p 1 = T at *
  go_enter Try.func37, Try.ntmps37
  go_wp2_with (first | (go_at_call 34; (with_reducible refine HT0.out.mono ?_); rintro r w1 ⟨rfl, l1⟩; obtain ⟨c0, c1, c2, c3, f0, f1, f2, f3⟩ := l1.cells; have L1 := hidden l1; clear l1) | (go_at_call 39; refine (HT1.out _ L1.out).mono ?_; rintro r w2 ⟨rfl, l2⟩; obtain ⟨c0, c1, c2, c3, f0, f1, f2, f3⟩ := l2.cells; have L2 := hidden l2; clear l2))
  obtain ⟨z0, z1, z2, z3⟩ := L2.out.end (.int .i64 0) (.slice none 0 0) (.int .u32 0) (.slice none 0 0)
  unfold set4 at z0 z1 z2 z3
  exact bodyPost_ret (v := .agg #[.int .i64 0, .slice none 0 0, .int .u32 0, .slice none 0 0]) (by simp [results, Try.results37, go_sem, z0, z1, z2, z3]) rfl (leaf_fin L2.out.1 L2.out.2.1 hRl 0 none 0 0 none 0 0 [] (vrow_nil _ _) (fun h => by simp at h) ⟨Nat.le_refl _, fun _ => ⟨rfl, rfl⟩⟩)
theorem tleaf_any (R : Nat) (a : Option Addr) (n c p : Nat) (zs : List Int) (w : World) (hbx : TBox w R a n c p 0) (hm : Mem w a n c zs) (hR : 0 < n → ∀ x, a = some x → x.block ≠ R) (hp : p < n) :
    Calls Try.prog 37 #[.pointer (some ⟨R, 0, none⟩)] w (LRet w R a n c (lfR zs p)) := by
  by_cases h1 : nuV zs p 1 = 1
  · exact tleaf_1 R a n c p zs w hbx hm hR hp h1
  by_cases h2 : nuV zs p 1 = 2
  · exact tleaf_2 R a n c p zs w hbx hm hR hp h2
  by_cases h3 : nuV zs p 1 = 3
  · exact tleaf_3 R a n c p zs w hbx hm hR hp h3
  by_cases h4 : nuV zs p 1 = 4
  · exact tleaf_4 R a n c p zs w hbx hm hR hp h4
  by_cases h5 : nuV zs p 1 = 5
  · exact tleaf_5 R a n c p zs w hbx hm hR hp h5
  by_cases h8 : nuV zs p 1 = 8
  · exact tleaf_8 R a n c p zs w hbx hm hR hp h8
  by_cases h9 : nuV zs p 1 = 9
  · exact tleaf_9 R a n c p zs w hbx hm hR hp h9
  by_cases h10 : nuV zs p 1 = 10
  · exact tleaf_10 R a n c p zs w hbx hm hR hp h10
  by_cases h11 : nuV zs p 1 = 11
  · exact tleaf_11 R a n c p zs w hbx hm hR hp h11
  refine tleaf_no R a n c p zs w hbx hm hp (fun t ht => ?_)
  simp only [List.mem_cons, List.not_mem_nil, or_false] at ht
  rcases ht with rfl | rfl | rfl | rfl | rfl | rfl | rfl | rfl | rfl <;> assumption
end Go.Proofs.Ytbifolpahmeaeaa
