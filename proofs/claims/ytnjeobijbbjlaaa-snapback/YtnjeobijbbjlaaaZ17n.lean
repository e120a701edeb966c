/- Layer 17, the program: the last state is told, and gone. -/
import Derived.Test.YtnjeobijbbjlaaaZ17m
namespace Go.Proofs.Ytnjeobijbbjlaaa
open Go.RowKit
set_option maxHeartbeats 1000000
set_option maxRecDepth 100000
set_option linter.unusedVariables false

theorem Fm.setnew {w w' : World} {T T' : Nat → Prop} (f : Fm w w' T T') (g i : Nat) (u : Value) (hg : w.heap.size ≤ g) : Fm w (w'.setCell ⟨g, i, none⟩ u) T T' :=
  ⟨f.os, f.tape, f.output, by have := f.size; simpa using this, fun k hk hT => (heap_setCell_other _ _ _ _ (by simp; omega)).trans (f.block k hk hT), f.row⟩
theorem UAt.setother {B : Nat} {w : World} {m : Nat} {v : Value} {most : Int} {L : List Sv} (h : UAt B w m v most L) (g i : Nat) (u : Value) (h1 : g ≠ m) (h2 : v.ownBlock ≠ some g) : UAt B (w.setCell ⟨g, i, none⟩ u) m v most L :=
  ⟨h.base, (heap_setCell_other _ _ _ _ (by simp; omega)).trans h.box, ownsRow_setCell_other h.row (by simpa using h2) _, h.ok⟩
/-- the last one of a row of states -/
theorem sv_last {B g n c : Nat} {w : World} {M : List Sv} {x : Sv} (h : w.ownsRow B 38 4 (.slice (some ⟨g, 0, none⟩) n c) n (svV (M ++ [x]))) (hn : n = M.length + 1) :
    w.cell? ⟨g, M.length * 4, none⟩ = some x.r ∧ w.cell? ⟨g, M.length * 4 + 1, none⟩ = some (.int .u32 x.h) ∧ w.cell? ⟨g, M.length * 4 + 2, none⟩ = some x.b ∧ w.cell? ⟨g, M.length * 4 + 3, none⟩ = some x.s := by
  have hl := svV_len M
  have key : ∀ i u, (svC x)[i]? = some u → w.cell? ⟨g, M.length * 4 + i, none⟩ = some u := fun i u hu => by
    have := h.cells (g := g) rfl (M.length * 4 + i) u (by
      rw [svV_app, List.getElem?_append_right (by omega), hl]
      simpa [svV] using hu)
    rwa [Addr.add_lit, Nat.zero_add] at this
  exact ⟨key 0 _ rfl, key 1 _ rfl, key 2 _ rfl, key 3 _ rfl⟩
set_option maxHeartbeats 8000000 in
theorem pop_some {B m : Nat} {v : Value} {most : Int} {M : List Sv} {x : Sv} {w : World} (h : UAt B w m v most (M ++ [x])) (hL : M.length ≤ 64) :
    Calls Try.prog 29 #[.pointer (some ⟨m, 0, none⟩)] w fun e w' => e = .returned (.tuple #[.agg #[x.r, .int .u32 x.h, x.b, x.s], .bool true]) ∧ Hid (UR B m v most w M w') := by
  obtain ⟨xr, xh, xb, xs⟩ := x
  obtain ⟨⟨ra, rn, rc, e1⟩, ⟨ba, bn, bc, e2⟩, ⟨sa, sn, sc, e3⟩⟩ := h.ok _ (by simp : (⟨xr, xh, xb, xs⟩ : Sv) ∈ M ++ [⟨xr, xh, xb, xs⟩])
  simp only at e1 e2 e3
  subst e1 e2 e3
  have hl : (M ++ [(⟨.slice ra rn rc, xh, .slice ba bn bc, .slice sa sn sc⟩ : Sv)]).length = M.length + 1 := by simp
  have hrow := h.row
  rw [hl] at hrow
  obtain ⟨ao, c, rfl⟩ := own_slice hrow
  obtain ⟨g, cur, rfl, q1, hg, hnc, hcm, q2, q3, q4⟩ := sv_cur hrow (by omega)
  have hgl : g < w.heap.size := (hrow.lt g rfl).2
  have hml := h.lt
  have hb0 : Below w.heap.size w (w.alloc (.cells #[.slice none 0 0, .int .u32 0, .slice none 0 0, .slice none 0 0] 38)) := (Below.refl _ _).alloc (Nat.le_refl _) _
  obtain ⟨r0, r1, r2, r3⟩ := st_box w (svN 0)
  simp only [svN] at r0 r1 r2 r3
  have hh := heap_alloc_new w (.cells #[.slice none 0 0, .int .u32 0, .slice none 0 0, .slice none 0 0] 38)
  have hU1 := h.later hb0
  obtain ⟨s0, s1, s2, s3⟩ := sv_last (by have := hU1.row; rw [hl] at this; exact this) rfl
  obtain ⟨d0, d1, dz⟩ := hU1.cells
  have HU1 := hidden hU1
  have HB0 := hidden hb0
  have HOK := hidden hL
  clear q2 q3 q4 hg
  clear hU1 hb0 cur d0 dz
  go_enter Try.func29, Try.ntmps29
  go_upto_region 1 with fail
  generalize w.alloc (.cells #[.slice none 0 0, .int .u32 0, .slice none 0 0, .slice none 0 0] 38) = W at *
  have z0 : W.frozen? ⟨w.heap.size, 0, none⟩ = false := by simp [World.frozen?, hh]
  have z1 : W.frozen? ⟨w.heap.size, 1, none⟩ = false := by simp [World.frozen?, hh]
  have z2 : W.frozen? ⟨w.heap.size, 2, none⟩ = false := by simp [World.frozen?, hh]
  have z3 : W.frozen? ⟨w.heap.size, 3, none⟩ = false := by simp [World.frozen?, hh]
  clear hh hrow
  obtain ⟨G, hG⟩ : ∃ G, w.heap.size = G := ⟨_, rfl⟩
  have HGE := hidden hG
  have hgG : g ≠ G := by omega
  have hmG : m ≠ G := by omega
  rw [hG] at r0 r1 r2 r3 z0 z1 z2 z3
  rw [hG]
  obtain ⟨k, hk⟩ : ∃ k, M.length = k := ⟨_, rfl⟩
  have HK := hidden hk
  rw [hk] at s0 s1 s2 s3 d1 hnc
  have c0 : ¬ ((k : Int) < 0) := by omega
  have hk64 : k ≤ 64 := by omega
  have c5 : (0 : Int) ≤ k := by omega
  have c6 : (k : Int) < ((k + 1 : Nat) : Int) := by omega
  have c7 : (k : Int) < (k : Int) + 1 := by omega
  have c8 : ((k : Int)).toNat = k := by omega
  clear hG hl hk h
  simp only at s0 s1 s2 s3
  have HU2 : Hid (UAt B ((((W.setCell ⟨G, 0, none⟩ (.slice ra rn rc)).setCell ⟨G, 1, none⟩ (.int .u32 xh)).setCell ⟨G, 2, none⟩ (.slice ba bn bc)).setCell ⟨G, 3, none⟩ (.slice sa sn sc)) m (.slice (some ⟨g, 0, none⟩) (M.length + 1) c) most (M ++ [⟨.slice ra rn rc, xh, .slice ba bn bc, .slice sa sn sc⟩])) := hidden ((((HU1.out.setother G 0 _ (Ne.symm hmG) (by simp [Value.ownBlock]; exact hgG)).setother G 1 _ (Ne.symm hmG) (by simp [Value.ownBlock]; exact hgG)).setother G 2 _ (Ne.symm hmG) (by simp [Value.ownBlock]; exact hgG)).setother G 3 _ (Ne.symm hmG) (by simp [Value.ownBlock]; exact hgG))
  have HF2 : Hid (Fm w ((((W.setCell ⟨G, 0, none⟩ (.slice ra rn rc)).setCell ⟨G, 1, none⟩ (.int .u32 xh)).setCell ⟨G, 2, none⟩ (.slice ba bn bc)).setCell ⟨G, 3, none⟩ (.slice sa sn sc)) (TU m (.slice (some ⟨g, 0, none⟩) (M.length + 1) c)) (TU m (.slice (some ⟨g, 0, none⟩) (M.length + 1) c))) := hidden (((((Fm.same HB0.out).setnew G 0 _ (by have := HGE.out; omega)).setnew G 1 _ (by have := HGE.out; omega)).setnew G 2 _ (by have := HGE.out; omega)).setnew G 3 _ (by have := HGE.out; omega))
  go_upto_region 5 with fail
  have t0 : ((((W.setCell ⟨G, 0, none⟩ (.slice ra rn rc)).setCell ⟨G, 1, none⟩ (.int .u32 xh)).setCell ⟨G, 2, none⟩ (.slice ba bn bc)).setCell ⟨G, 3, none⟩ (.slice sa sn sc)).cell? ⟨G, 0, none⟩ = some (.slice ra rn rc) := by simp [World.cell?_setCell_same, World.cell?_setCell_other, r0]
  have t1 : ((((W.setCell ⟨G, 0, none⟩ (.slice ra rn rc)).setCell ⟨G, 1, none⟩ (.int .u32 xh)).setCell ⟨G, 2, none⟩ (.slice ba bn bc)).setCell ⟨G, 3, none⟩ (.slice sa sn sc)).cell? ⟨G, 1, none⟩ = some (.int .u32 xh) := by simp [World.cell?_setCell_same, World.cell?_setCell_other, r1]
  have t2 : ((((W.setCell ⟨G, 0, none⟩ (.slice ra rn rc)).setCell ⟨G, 1, none⟩ (.int .u32 xh)).setCell ⟨G, 2, none⟩ (.slice ba bn bc)).setCell ⟨G, 3, none⟩ (.slice sa sn sc)).cell? ⟨G, 2, none⟩ = some (.slice ba bn bc) := by simp [World.cell?_setCell_same, World.cell?_setCell_other, r2]
  have t3 : ((((W.setCell ⟨G, 0, none⟩ (.slice ra rn rc)).setCell ⟨G, 1, none⟩ (.int .u32 xh)).setCell ⟨G, 2, none⟩ (.slice ba bn bc)).setCell ⟨G, 3, none⟩ (.slice sa sn sc)).cell? ⟨G, 3, none⟩ = some (.slice sa sn sc) := by simp [World.cell?_setCell_same, World.cell?_setCell_other, r3]
  have y0 : ((((W.setCell ⟨G, 0, none⟩ (.slice ra rn rc)).setCell ⟨G, 1, none⟩ (.int .u32 xh)).setCell ⟨G, 2, none⟩ (.slice ba bn bc)).setCell ⟨G, 3, none⟩ (.slice sa sn sc)).frozen? ⟨G, 0, none⟩ = false := by simpa using z0
  have y1 : ((((W.setCell ⟨G, 0, none⟩ (.slice ra rn rc)).setCell ⟨G, 1, none⟩ (.int .u32 xh)).setCell ⟨G, 2, none⟩ (.slice ba bn bc)).setCell ⟨G, 3, none⟩ (.slice sa sn sc)).frozen? ⟨G, 1, none⟩ = false := by simpa using z1
  have y2 : ((((W.setCell ⟨G, 0, none⟩ (.slice ra rn rc)).setCell ⟨G, 1, none⟩ (.int .u32 xh)).setCell ⟨G, 2, none⟩ (.slice ba bn bc)).setCell ⟨G, 3, none⟩ (.slice sa sn sc)).frozen? ⟨G, 2, none⟩ = false := by simpa using z2
  have y3 : ((((W.setCell ⟨G, 0, none⟩ (.slice ra rn rc)).setCell ⟨G, 1, none⟩ (.int .u32 xh)).setCell ⟨G, 2, none⟩ (.slice ba bn bc)).setCell ⟨G, 3, none⟩ (.slice sa sn sc)).frozen? ⟨G, 3, none⟩ = false := by simpa using z3
  have hGl : G < ((((W.setCell ⟨G, 0, none⟩ (.slice ra rn rc)).setCell ⟨G, 1, none⟩ (.int .u32 xh)).setCell ⟨G, 2, none⟩ (.slice ba bn bc)).setCell ⟨G, 3, none⟩ (.slice sa sn sc)).heap.size := World.block_lt_of_cell? _ _ t0
  clear r0 r1 r2 r3 z0 z1 z2 z3 s0 s1 s2 s3 d1 HU1
  generalize (((W.setCell ⟨G, 0, none⟩ (.slice ra rn rc)).setCell ⟨G, 1, none⟩ (.int .u32 xh)).setCell ⟨G, 2, none⟩ (.slice ba bn bc)).setCell ⟨G, 3, none⟩ (.slice sa sn sc) = W2 at *
  rw [HK.out] at HU2 HF2
  have d1 := HU2.out.cells.2.1
  have hl2 : (M ++ [(⟨.slice ra rn rc, xh, .slice ba bn bc, .slice sa sn sc⟩ : Sv)]).length = k + 1 := by simp [HK.out]
  have hrw := HU2.out.row
  rw [hl2] at hrw
  have HDL := hidden (sdelete_any B (some ⟨g, 0, none⟩) (k + 1) c k _ W2 HU2.out.ok hrw (by omega) (by omega))
  have hmid : (M ++ [(⟨.slice ra rn rc, xh, .slice ba bn bc, .slice sa sn sc⟩ : Sv)]).take k ++ (M ++ [(⟨.slice ra rn rc, xh, .slice ba bn bc, .slice sa sn sc⟩ : Sv)]).drop (k + 1) = M := by
    rw [List.take_left' HK.out, List.drop_of_length_le (by omega), List.append_nil]
  rw [hmid] at HDL
  simp only [Nat.add_sub_cancel] at HDL
  have HFI : Hid (∀ w3, w3.ownsRow B 38 4 (.slice (some ⟨g, 0, none⟩) k c) k (svV M) → W2.grownBy w3 (some g) → (w3.cell? ⟨m, 1, none⟩ = some (.slice (some ⟨g, 0, none⟩) (k + 1) c) ∧ w3.frozen? ⟨m, 1, none⟩ = false) ∧ (∀ j, w3.cell? ⟨G, j, none⟩ = W2.cell? ⟨G, j, none⟩ ∧ w3.frozen? ⟨G, j, none⟩ = W2.frozen? ⟨G, j, none⟩) ∧ ∀ u0 u1 u2 u3, UR B m (.slice (some ⟨g, 0, none⟩) (k + 1) c) most w M (((((w3.setCell ⟨m, 1, none⟩ (.slice (some ⟨g, 0, none⟩) k c)).setCell ⟨G, 0, none⟩ u0).setCell ⟨G, 1, none⟩ u1).setCell ⟨G, 2, none⟩ u2).setCell ⟨G, 3, none⟩ u3)) := hidden (fun w3 ho hgr => by
    have f := fm_of_grown (v := .slice (some ⟨g, 0, none⟩) (k + 1) c) hgr
    have hm2 : w3.heap[m]? = W2.heap[m]? := f.block m HU2.out.lt HU2.out.ne
    have hG2 : w3.heap[G]? = W2.heap[G]? := f.block G hGl (by simp [Value.ownBlock]; exact hgG)
    refine ⟨⟨by rw [World.cell?_of_block hm2]; exact d1, by rw [World.frozen?_of_block hm2]; exact HU2.out.cells.2.2 1⟩, fun j => ⟨World.cell?_of_block hG2, World.frozen?_of_block hG2⟩, fun u0 u1 u2 u3 => ?_⟩
    obtain ⟨g1, g2⟩ := HU2.out.put (v' := .slice (some ⟨g, 0, none⟩) k c) (L' := M) (f.to (fun q e => e) (fun q e => .inr e)) (by rw [HK.out]; exact ho) (fun y hy => HU2.out.ok y (List.mem_append_left _ hy))
    have n1 : (Value.slice (some ⟨g, 0, none⟩) k c).ownBlock ≠ some G := by simp [Value.ownBlock]; exact hgG
    have hle : w.heap.size ≤ G := by have := HGE.out; omega
    exact ⟨_, (((g1.setother G 0 _ (Ne.symm hmG) n1).setother G 1 _ (Ne.symm hmG) n1).setother G 2 _ (Ne.symm hmG) n1).setother G 3 _ (Ne.symm hmG) n1, ((((HF2.out.trans g2).setnew G 0 _ hle).setnew G 1 _ hle).setnew G 2 _ hle).setnew G 3 _ hle⟩)
  clear hl2 hrw hmid HU2 HF2 HB0
  have HT := hidden (show (W2.cell? ⟨G, 0, none⟩ = _ ∧ W2.cell? ⟨G, 1, none⟩ = _ ∧ W2.cell? ⟨G, 2, none⟩ = _ ∧ W2.cell? ⟨G, 3, none⟩ = _) ∧ (W2.frozen? ⟨G, 0, none⟩ = _ ∧ W2.frozen? ⟨G, 1, none⟩ = _ ∧ W2.frozen? ⟨G, 2, none⟩ = _ ∧ W2.frozen? ⟨G, 3, none⟩ = _) from ⟨⟨t0, t1, t2, t3⟩, ⟨y0, y1, y2, y3⟩⟩)
  clear t0 t1 t2 t3 y0 y1 y2 y3
  go_wp2_with (first
    | (go_at_call 31; refine HDL.out.mono ?_; rintro e w3 ⟨rfl, HO3, HG3⟩; obtain ⟨⟨i1, i2⟩, i3, HUR⟩ := HFI.out w3 HO3.out HG3.out; have t0 := (i3 0).1.trans HT.out.1.1; have t1 := (i3 1).1.trans HT.out.1.2.1; have t2 := (i3 2).1.trans HT.out.1.2.2.1; have t3 := (i3 3).1.trans HT.out.1.2.2.2; have y0 := (i3 0).2.trans HT.out.2.1; have y1 := (i3 1).2.trans HT.out.2.2.1; have y2 := (i3 2).2.trans HT.out.2.2.2.1; have y3 := (i3 3).2.trans HT.out.2.2.2.2; have HUQ := hidden HUR; clear i3 HUR HFI HT)
    | fail)
  exact bodyPost_ret (v := .tuple #[.agg #[.slice ra rn rc, .int .u32 xh, .slice ba bn bc, .slice sa sn sc], .bool true]) (by simp [results, Try.results29, go_sem, t0, t1, t2, t3]) rfl ⟨rfl, by rw [HK.out]; exact hidden (HUQ.out _ _ _ _)⟩
theorem UR.seto {B m : Nat} {v : Value} {most : Int} {w w' : World} {L : List Sv} (h : UR B m v most w L w') (G i : Nat) (u : Value) (hG : G < w.heap.size) (hT : ¬ TU m v G) : ∃ v', UAt B (w'.setCell ⟨G, i, none⟩ u) m v' most L ∧ Fm w w' (TU m v) (TU m v') ∧ ¬ TU m v' G := by
  obtain ⟨v', h1, h2⟩ := h
  have hn : ¬ TU m v' G := fun e => by
    rcases h2.row G e with q | q
    · exact hT q
    · omega
  exact ⟨v', h1.setother G i u (fun e => hn (.inl e)) (fun e => hn (.inr e)), h2, hn⟩
set_option maxHeartbeats 8000000 in
theorem upop_some {B m : Nat} {v : Value} {most : Int} {M : List Sv} {x : Sv} {w : World} (h : UAt B w m v most (M ++ [x])) (hL : M.length ≤ 64) :
    Calls Try.prog 19 #[.pointer (some ⟨m, 0, none⟩)] w fun e w' => e = .returned (.tuple #[.agg #[x.r, .int .u32 x.h, x.b, x.s], .bool true]) ∧ Hid (UR B m v most w M w') := by
  obtain ⟨xr, xh, xb, xs⟩ := x
  obtain ⟨⟨ra, rn, rc, e1⟩, ⟨ba, bn, bc, e2⟩, ⟨sa, sn, sc, e3⟩⟩ := h.ok _ (by simp : (⟨xr, xh, xb, xs⟩ : Sv) ∈ M ++ [⟨xr, xh, xb, xs⟩])
  simp only at e1 e2 e3
  subst e1 e2 e3
  have hb0 : Below w.heap.size w (w.alloc (.cells #[.slice none 0 0, .int .u32 0, .slice none 0 0, .slice none 0 0] 38)) := (Below.refl _ _).alloc (Nat.le_refl _) _
  have hsz : (w.alloc (.cells #[.slice none 0 0, .int .u32 0, .slice none 0 0, .slice none 0 0] 38)).heap.size = w.heap.size + 1 := by simp
  have HPP := hidden (pop_some (h.later hb0) hL)
  have hT : ¬ TU m v w.heap.size := fun e => by
    rcases e with e | e
    · have := h.lt; omega
    · have := (h.row.lt _ e).2; omega
  obtain ⟨r0, r1, r2, r3⟩ := st_box w (svN 0)
  simp only [svN] at r0 r1 r2 r3
  have hh := heap_alloc_new w (.cells #[.slice none 0 0, .int .u32 0, .slice none 0 0, .slice none 0 0] 38)
  have HFI : Hid (∀ w3, UR B m v most (w.alloc (.cells #[.slice none 0 0, .int .u32 0, .slice none 0 0, .slice none 0 0] 38)) M w3 → (∀ j, w3.cell? ⟨w.heap.size, j, none⟩ = (w.alloc (.cells #[.slice none 0 0, .int .u32 0, .slice none 0 0, .slice none 0 0] 38)).cell? ⟨w.heap.size, j, none⟩ ∧ w3.frozen? ⟨w.heap.size, j, none⟩ = (w.alloc (.cells #[.slice none 0 0, .int .u32 0, .slice none 0 0, .slice none 0 0] 38)).frozen? ⟨w.heap.size, j, none⟩) ∧ ∀ u0 u1 u2 u3, UR B m v most w M ((((w3.setCell ⟨w.heap.size, 0, none⟩ u0).setCell ⟨w.heap.size, 1, none⟩ u1).setCell ⟨w.heap.size, 2, none⟩ u2).setCell ⟨w.heap.size, 3, none⟩ u3)) := hidden (fun w3 hu => by
    obtain ⟨v', h1, h2⟩ := hu
    have hn : ¬ TU m v' w.heap.size := fun e => by
      rcases h2.row _ e with q | q
      · exact hT q
      · omega
    have hG2 := h2.block w.heap.size (by omega) hT
    have n1 : w.heap.size ≠ m := fun e => hn (.inl e)
    have n2 : v'.ownBlock ≠ some w.heap.size := fun e => hn (.inr e)
    have hf : Fm w w3 (TU m v) (TU m v') := (Fm.same hb0).trans h2
    refine ⟨fun j => ⟨World.cell?_of_block hG2, World.frozen?_of_block hG2⟩, fun u0 u1 u2 u3 => ⟨v', (((h1.setother _ 0 _ n1 n2).setother _ 1 _ n1 n2).setother _ 2 _ n1 n2).setother _ 3 _ n1 n2, (((hf.setnew _ 0 _ (Nat.le_refl _)).setnew _ 1 _ (Nat.le_refl _)).setnew _ 2 _ (Nat.le_refl _)).setnew _ 3 _ (Nat.le_refl _)⟩⟩)
  have hml := h.lt
  clear h hb0 hsz hT hL
  go_enter Try.func19, Try.ntmps19
  go_upto_region 3 with fail
  generalize w.alloc (.cells #[.slice none 0 0, .int .u32 0, .slice none 0 0, .slice none 0 0] 38) = W at *
  have z0 : W.frozen? ⟨w.heap.size, 0, none⟩ = false := by simp [World.frozen?, hh]
  have z1 : W.frozen? ⟨w.heap.size, 1, none⟩ = false := by simp [World.frozen?, hh]
  have z2 : W.frozen? ⟨w.heap.size, 2, none⟩ = false := by simp [World.frozen?, hh]
  have z3 : W.frozen? ⟨w.heap.size, 3, none⟩ = false := by simp [World.frozen?, hh]
  clear hh
  have HT := hidden (show (W.cell? ⟨w.heap.size, 0, none⟩ = _ ∧ W.cell? ⟨w.heap.size, 1, none⟩ = _ ∧ W.cell? ⟨w.heap.size, 2, none⟩ = _ ∧ W.cell? ⟨w.heap.size, 3, none⟩ = _) ∧ (W.frozen? ⟨w.heap.size, 0, none⟩ = _ ∧ W.frozen? ⟨w.heap.size, 1, none⟩ = _ ∧ W.frozen? ⟨w.heap.size, 2, none⟩ = _ ∧ W.frozen? ⟨w.heap.size, 3, none⟩ = _) from ⟨⟨r0, r1, r2, r3⟩, ⟨z0, z1, z2, z3⟩⟩)
  clear r0 r1 r2 r3 z0 z1 z2 z3
  obtain ⟨G, hG⟩ : ∃ G, w.heap.size = G := ⟨_, rfl⟩
  have HGE := hidden hG
  rw [hG] at HFI HT
  rw [hG]
  clear hG
  go_wp2_with (first
    | (go_at_call 29; refine HPP.out.mono ?_; rintro e w3 ⟨rfl, HR3⟩; obtain ⟨i3, HUR⟩ := HFI.out w3 HR3.out; have t0 := (i3 0).1.trans HT.out.1.1; have t1 := (i3 1).1.trans HT.out.1.2.1; have t2 := (i3 2).1.trans HT.out.1.2.2.1; have t3 := (i3 3).1.trans HT.out.1.2.2.2; have y0 := (i3 0).2.trans HT.out.2.1; have y1 := (i3 1).2.trans HT.out.2.2.1; have y2 := (i3 2).2.trans HT.out.2.2.2.1; have y3 := (i3 3).2.trans HT.out.2.2.2.2; have HUQ := hidden HUR; clear i3 HUR HFI HT)
    | fail)
  exact bodyPost_ret (v := .tuple #[.agg #[.slice ra rn rc, .int .u32 xh, .slice ba bn bc, .slice sa sn sc], .bool true]) (by simp [results, Try.results19, go_sem, t0, t1, t2, t3]) rfl ⟨rfl, hidden (HUQ.out _ _ _ _)⟩
end Go.Proofs.Ytnjeobijbbjlaaa
