/- An act in both: Load. -/
import Derived.Test.YthdbaiddmelhgaaE9n
namespace Go.Proofs.Ythdbaiddmelhgaa
open Go.RowKit
set_option maxHeartbeats 1000000
set_option maxRecDepth 100000
set_option linter.unusedVariables false

/-- a row of the call's own is no part of either heap -/
theorem HalfS.own {B h d : Nat} {w0 w w' : World} {s s2 : Hs} {gs : List Nat} {v : Value} {n : Nat} {xs : List Value} (r : HalfS B h d w0 w s s2 gs) (hb : Below w.heap.size w w') (ho : w'.ownsRow w.heap.size 40 2 v n xs) : HalfS B h d w0 w' s s2 (v.ownBlock.toList ++ gs) := by
  cases hv : v.ownBlock with
  | none => exact (r.later hb).1
  | some g => exact r.fresh hb g (ho.lt g hv).1 (ho.lt g hv).2
/-- a row of n blocks that may be written -/
def WrI (w : World) (ao : Option Addr) (n q B : Nat) (gs : List Nat) : Prop := 0 < n → ∃ g cur, ao = some ⟨g, 0, none⟩ ∧ g ∈ gs ∧ B ≤ g ∧ g ≠ q ∧ w.heap[g]? = some (.cells cur 40 (0, 0)) ∧ n * 2 ≤ cur.size
theorem WrI.of {w : World} {ao : Option Addr} {n c q B b : Nat} {gs : List Nat} {xs : List Value} (ho : w.ownsRow b 40 2 (.slice ao n c) n xs) (hq : q < b) (hB : B ≤ b) : WrI w ao n q B ((Value.slice ao n c).ownBlock.toList ++ gs) := by
  intro hn
  rcases ho.2 with ⟨h1, h2⟩ | ⟨g, cap, cur, e1, e2, e3, e4⟩
  · simp only [Value.slice.injEq] at h1; omega
  · have hl := ho.lt g (by rw [e1]; rfl)
    have e5 := e1
    simp only [Value.slice.injEq] at e5
    refine ⟨g, cur, e5.1, ?_, by omega, by omega, e3, ?_⟩
    · rw [e1]; simp [Value.ownBlock]
    · rw [e4.2.2.1]; exact Nat.mul_le_mul_right 2 e4.1
theorem WrI.kept {w w' : World} {ao : Option Addr} {n q B : Nat} {gs : List Nat} (h : WrI w ao n q B gs) (hk : Kept w w' gs) : WrI w' ao n q B gs := fun hn => by
  obtain ⟨g, cur, h1, h2, h3, h4, h5, h6⟩ := h hn
  exact ⟨g, cur, h1, h2, h3, h4, by rw [hk g h2]; exact h5, h6⟩
theorem WrI.set {w : World} {g n q B : Nat} {gs : List Nat} (h : WrI w (some ⟨g, 0, none⟩) n q B gs) (i : Nat) (x : Value) : WrI (w.setCell ⟨g, i, none⟩ x) (some ⟨g, 0, none⟩) n q B gs := fun hn => by
  obtain ⟨g', cur, h1, h2, h3, h4, h5, h6⟩ := h hn
  cases h1
  refine ⟨g, cur.setIfInBounds i x, rfl, h2, h3, h4, ?_, by simpa using h6⟩
  rw [setCell_eq_setRow w g i cur 40 (0, 0) x h5]
  exact setRow_heap w g cur _ _ _ h5
theorem does_3 (B h d : Nat) (s : Hs) (w0 w : World) (n a x : Nat) (al : Option Addr) (nl cl : Nat) (bs : List Bk) (r : HalfS B h d w0 w s s []) (ok : OkS s) (ha : a < 4294967296) (hx : x < 4294967296) (hbk : ∀ w1, Below B w0 w1 → Bks w1 al nl cl bs) (hf : FitB bs) (hnl : nl ≤ 9000) :
    Calls Try.prog 7 #[.pointer (some ⟨h, 0, none⟩), .pointer (some ⟨d, 0, none⟩), .agg #[.int .i64 3, .int .u32 n, .int .u32 a, .int .u32 x, .slice al nl cl]] w fun e w' => DoesR B d w0 w' s.most e := by
  have HBW : Hid (∀ w1 gs s' s2, HalfS B h d w0 w1 s' s2 gs → Bks w1 al nl cl bs) := fun w1 gs s' s2 r1 => hbk w1 (by obtain ⟨t, v, u, h1, h2, h4, h5, h6, lk, hg⟩ := r1; exact h5)
  have HB0 : Hid (B ≤ w.heap.size) := by obtain ⟨t, v, u, h1, h2, h4, h5, h6, lk, hg⟩ := r; exact h6
  have hba : Below w.heap.size w (w.alloc (actO 3 n a x (.slice al nl cl))) := (Below.refl _ _).alloc (Nat.le_refl _) _
  have HR : Hid (HalfS B h d w0 (w.alloc (actO 3 n a x (.slice al nl cl))) s s [w.heap.size]) := r.fresh hba w.heap.size (Nat.le_refl _) (by simp)
  have HQ := hidden (heap_alloc_new w (actO 3 n a x (.slice al nl cl)))
  have HLD := hidden fun ao c w1 gs (r1 : HalfS B h d w0 w1 s s gs) (hk : Bks w1 ao nl c bs) => HalfS.load a x ao nl c bs r1 hk hf ha hx
  have HDL := hidden fun w1 gs (r1 : HalfS B h d w0 w1 (loadS s a x bs) s gs) (hk : Bks w1 al nl cl bs) => HalfS.dload a x al nl cl bs r1 hk hf ha hx
  have HOK := hidden (And.intro (ok_load a x bs ok) (most_load s a x bs))
  clear r ok hba hbk hf
  generalize loadE s a x bs = E at *
  generalize loadS s a x bs = s1 at *
  generalize s.most = m at *
  go_enter Try.func7, Try.ntmps7
  have hsz : (w.alloc (actO 3 n a x (.slice al nl cl))).heap.size = w.heap.size + 1 := by simp
  have HMAD : Hid (((w.alloc (actO 3 n a x (.slice al nl cl))).alloc (.cells #[] 40)).ownsRow (w.heap.size + 1) 40 2 (.slice (some ⟨w.heap.size + 1, 0, none⟩) 0 0) 0 []) := by
    have := World.ownsRow_made (base := w.heap.size + 1) (e := 40) (size := 2) (w.alloc (actO 3 n a x (.slice al nl cl))) #[] 0 (by simp) (by simp) (by simp)
    refine hidden ?_
    simpa using this
  have HBR : Hid (Bks ((w.alloc (actO 3 n a x (.slice al nl cl))).alloc (.cells #[] 40)) al nl cl bs) := HBW.out _ _ _ _ (HR.out.later ((Below.refl _ _).alloc (Nat.le_refl _) _)).1
  have HAP : Hid (∀ w1 a2 c2, ((w.alloc (actO 3 n a x (.slice al nl cl))).alloc (.cells #[] 40)).grownBy w1 (Value.slice (some ⟨w.heap.size + 1, 0, none⟩) 0 0).ownBlock → w1.ownsRow (w.heap.size + 1) 40 2 (.slice a2 nl c2) nl (bksV bs) → HalfS B h d w0 w1 s s ((Value.slice a2 nl c2).ownBlock.toList ++ [w.heap.size]) ∧ w1.heap[w.heap.size]? = some (actO 3 n a x (.slice al nl cl)) ∧ WrI w1 a2 nl w.heap.size B ((Value.slice a2 nl c2).ownBlock.toList ++ [w.heap.size]) ∧ Bks w1 a2 nl c2 bs) := fun w1 a2 c2 g1 o1 => by
    have hb : Below (w.alloc (actO 3 n a x (.slice al nl cl))).heap.size (w.alloc (actO 3 n a x (.slice al nl cl))) w1 := ((Below.refl _ _).alloc (Nat.le_refl _) _).grown g1 (by simp) (fun j hj => by
      simp only [Value.ownBlock, Option.some.injEq] at hj
      omega)
    rw [← hsz] at o1
    refine ⟨HR.out.own hb o1, ?_, WrI.of o1 (by omega) (by have := HB0.out; omega), own_bks o1⟩
    rw [hb.block w.heap.size (by omega)]
    exact HQ.out
  clear HR HQ hsz
  go_wp2_with (first | (at_builtin; refine wpList_append_bks rfl (.tmp 96) (.tmp 98) rfl (w.heap.size + 1) (.slice (some ⟨w.heap.size + 1, 0, none⟩) 0 0) 0 [] rfl HMAD.out al nl cl bs rfl HBR.out (by omega) (by simp) ?_; intro v1 w1 o1 g1; (try rw [Nat.zero_add] at o1); (try rw [List.nil_append] at o1); obtain ⟨a2, c2, rfl⟩ := own_slice2 o1; obtain ⟨r1, q1, wr1, bk1⟩ := HAP.out w1 a2 c2 g1 o1; obtain ⟨j0, j1, j2, j3, j4⟩ := act_cells (w' := w) q1; have R1 := hidden r1; have Q1 := hidden q1; have WR1 := hidden wr1; have BK1 := hidden bk1; clear r1 q1 wr1 bk1 o1 g1 HAP HMAD HBR) | (go_at_call 19; refine (HLD.out a2 c2 _ _ R1.out BK1.out).mono ?_; rintro e w2 ⟨rfl, r2, k2⟩; have R2 := hidden r2; have Q2 := hidden ((k2 w.heap.size (by simp)).trans Q1.out); have WR2 := hidden (WR1.out.kept k2); clear r2 k2 R1 Q1 WR1 BK1 HLD))
  clear j0 j1 j2 j3 j4
  go_loopw [16] (fun i wr => ∃ k : Nat, k ≤ nl ∧ i = .int .i64 k ∧ Hid (HalfS B h d w0 wr s1 s ((Value.slice a2 nl c2).ownBlock.toList ++ [w.heap.size])) ∧ Hid (wr.heap[w.heap.size]? = some (actO 3 n a x (.slice al nl cl))) ∧ Hid (WrI wr a2 nl w.heap.size B ((Value.slice a2 nl c2).ownBlock.toList ++ [w.heap.size]))) (fun i _ => nl - (intOf i).toNat)
  case atStart => exact ⟨0, by omega, rfl, R2, Q2, WR2⟩
  case round =>
    clear R2 Q2 WR2
    obtain ⟨k, hk, rfl, R3, Q3, WR3⟩ := hrel
    by_cases hlt : k < nl
    · obtain ⟨g, cur, rfl, hm, hBg, hgq, hcur, hcs⟩ := WR3.out (by omega)
      have d1 : (k : Int) < (nl : Int) := by omega
      have f1 : wr.cell? ⟨g, k * 2, none⟩ = some (cur[k * 2]'(by omega)) := by simp [World.cell?, hcur]
      have f2 : wr.cell? ⟨g, k * 2 + 1, none⟩ = some (cur[k * 2 + 1]'(by omega)) := by simp [World.cell?, hcur]
      have f3 : wr.frozen? ⟨g, k * 2, none⟩ = false := by simp [World.frozen?, hcur]
      have f4 : wr.frozen? ⟨g, k * 2 + 1, none⟩ = false := by simp [World.frozen?, hcur]
      generalize cur[k * 2] = y1 at *
      generalize cur[k * 2 + 1] = y2 at *
      have HM := hidden hm
      have HBG := hidden hBg
      have HGQ := hidden hgq
      clear hm hBg hgq hcur hcs
      go_wp2
      go_roundw
      case rel =>
        refine ⟨k + 1, by omega, int_eq (by omega), (R3.out.set g _ _ HM.out HBG.out).set g _ _ HM.out HBG.out, ?_, (WR3.out.set _ _).set _ _⟩
        refine hidden ?_
        rw [heap_setCell_other _ _ _ _ (by simpa using HGQ.out.symm), heap_setCell_other _ _ _ _ (by simpa using HGQ.out.symm)]
        exact Q3.out
      case measure => simp [intOf]; omega
    · obtain rfl : k = nl := by omega
      obtain ⟨j0, j1, j2, j3, j4⟩ := act_cells (w' := w) Q3.out
      have f0 : ¬ (k : Int) < (k : Int) := by omega
      have HBD : Hid (∀ w5, HalfS B h d w0 w5 s1 s ((Value.slice a2 k c2).ownBlock.toList ++ [w.heap.size]) → Bks w5 al k cl bs) := fun w5 r5 => HBW.out _ _ _ _ r5
      have RD := hidden (R3.out.later ((Below.refl _ _).drew)).1
      clear HBW
      go_wp2_with fail
      go_region_held3 (fun w' => w'.cell? ⟨w.heap.size, 2, none⟩ = some (.int .u32 a) ∧ w'.cell? ⟨w.heap.size, 3, none⟩ = some (.int .u32 x) ∧ w'.cell? ⟨w.heap.size, 4, none⟩ = some (.slice al k cl)) (first | assumption | exact ⟨by assumption, by assumption, by assumption⟩ | go_keep) (first | (go_at_call 16; refine (num8 _ _).mono ?_; rintro e w9 ⟨rfl, rfl⟩) | (go_at_call 20; refine (HDL.out _ _ RD.out (HBD.out _ RD.out)).mono ?_; rintro e w4 ⟨rfl, r4, k4⟩; have R4 := hidden r4; clear r4; obtain ⟨l0, l1, l2, l3, l4⟩ := act_cells (w' := w) ((k4 w.heap.size (by simp)).trans Q3.out)) | fail)
      go_wp2
      go_ret2
      exact ⟨h, s1, rfl, R4.out.less (by simp), HOK.out.1, HOK.out.2⟩
end Go.Proofs.Ythdbaiddmelhgaa
