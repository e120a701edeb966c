/- The document's Free. -/
import Derived.Test.YthdbaiddmelhgaaE9c
namespace Go.Proofs.Ythdbaiddmelhgaa
open Go.RowKit
set_option maxHeartbeats 1000000
set_option maxRecDepth 100000
set_option linter.unusedVariables false

theorem two_newD (w : World) (a b : Value) : ∀ j u, [a, b][j]? = some u → (w.alloc (.cells #[a, b] 40)).cell? ((⟨w.heap.size, 0, none⟩ : Addr).add j) = some u := by
  intro j u hj
  rw [Addr.add_lit, Nat.zero_add, World.cell?_alloc_at _ _ _ _ rfl]
  simpa using hj
/-- the blocks that do not begin there -/
def fltB (bs : List Bk) (x : Nat) : List Bk := bs.filter fun b => decide (b.a ≠ x)
theorem flt_snoc (bs : List Bk) (x k : Nat) (h : k < bs.length) : fltB (bs.take (k + 1)) x = if bs[k].a = x then fltB (bs.take k) x else fltB (bs.take k) x ++ [bs[k]] := by
  unfold fltB
  rw [List.take_succ_eq_append_getElem h, List.filter_append]
  split
  · rename_i e; simp [e]
  · rename_i e; simp [e]
def dfreeE (t : Hs) (x : Nat) : Nat := if (fltB t.bs x).length = t.bs.length then 5 else 0
def dfreeS (t : Hs) (x : Nat) : Hs := if (fltB t.bs x).length = t.bs.length then t else if (fltB t.bs x).length = 0 then ⟨t.most, 0, 0, fltB t.bs x⟩ else ⟨t.most, t.start, t.en, fltB t.bs x⟩
theorem dp_free {B : Nat} {w wr : World} {d : Nat} {u v : Value} {t : Hs} {l : List Bk} (hp : DpAt B w d u t) (hB : B ≤ w.heap.size) (hb : Below w.heap.size w wr) (ho : wr.ownsRow w.heap.size 40 2 v l.length (bksV l)) :
    LeftD B w (wr.setCell ⟨d, 3, none⟩ v) d u ⟨t.most, t.start, t.en, l⟩ ∧ LeftD B w (((wr.setCell ⟨d, 3, none⟩ v).setCell ⟨d, 1, none⟩ (.int .i64 0)).setCell ⟨d, 2, none⟩ (.int .i64 0)) d u ⟨t.most, 0, 0, l⟩ := by
  have hp1 := hp.later hb
  have h3 := dp_set3 hp.1 hp1.2.1 (Joins.ownsRow_le ho hB)
  have f : Fr w (wr.setCell ⟨d, 3, none⟩ v) d u v := fr_set (v' := v) ⟨hb.os, hb.tape, hb.output, hb.size, fun k hk _ _ => hb.block k hk, fun k hk => .inr (ho.lt k hk).1⟩ 3 _
  exact ⟨⟨v, h3, f⟩, ⟨v, dp_set2 h3 0 0, fr_set (fr_set f 1 _) 2 _⟩⟩
set_option maxHeartbeats 4000000 in
theorem dFree_any (B d : Nat) (u : Value) (t : Hs) (x : Nat) (w : World) (hp : DpAt B w d u t) (hB : B ≤ w.heap.size) (hl : t.bs.length ≤ 4096) :
    Calls Try.prog 18 #[.pointer (some ⟨d, 0, none⟩), .int .u32 x] w fun e w' => e = .returned (.int .i64 (dfreeE t x : Nat)) ∧ LeftD B w w' d u (dfreeS t x) := by
  obtain ⟨i0, hi, hz0, hz1, hz2⟩ := bk_parts
  obtain ⟨ao, c, rfl⟩ := own_slice2 hp.2.2
  have hnc : t.bs.length ≤ c := (own_bks hp.2.2).2.1
  have HCL : Hid (∀ w1, Below w.heap.size w w1 → w1.cell? ⟨d, 1, none⟩ = some (.int .i64 t.start) ∧ w1.cell? ⟨d, 2, none⟩ = some (.int .i64 t.en) ∧ w1.cell? ⟨d, 3, none⟩ = some (.slice ao t.bs.length c) ∧ w1.frozen? ⟨d, 1, none⟩ = false ∧ w1.frozen? ⟨d, 2, none⟩ = false ∧ w1.frozen? ⟨d, 3, none⟩ = false ∧ d < w1.heap.size) := fun w1 hb1 => by
    have hq := hp.later hb1
    have hc := hq.cells
    exact ⟨hc.2.1, hc.2.2.1, hc.2.2.2.1, hc.2.2.2.2 1, hc.2.2.2.2 2, hc.2.2.2.2 3, (Array.getElem?_eq_some_iff.1 hq.2.1).1⟩
  have HO := hidden hp.2.2
  have HFR := hidden fun wr v l (hb : Below w.heap.size w wr) (ho : wr.ownsRow w.heap.size 40 2 v l.length (bksV l)) => dp_free hp hB hb ho
  have HSAME := hidden fun w1 (hb1 : Below w.heap.size w w1) => LeftD.same hp hb1
  obtain ⟨FE, hFE⟩ : ∃ FE, FE = dfreeE t x := ⟨_, rfl⟩
  obtain ⟨FS, hFS⟩ : ∃ FS, FS = dfreeS t x := ⟨_, rfl⟩
  rw [← hFE, ← hFS]
  have HFE := hidden hFE
  have HFS := hidden hFS
  clear hp hFE hFS
  go_enter Try.func18, Try.ntmps18
  go_wp2
  go_loopw [5, 6] (fun v i wr => ∃ (k : Nat) (ao5 : Option Addr) (c5 : Nat), k ≤ t.bs.length ∧ i = .int .i64 k ∧ v = .slice ao5 (fltB (t.bs.take k) x).length c5 ∧ Hid (wr.ownsRow w.heap.size 40 2 (.slice ao5 (fltB (t.bs.take k) x).length c5) (fltB (t.bs.take k) x).length (bksV (fltB (t.bs.take k) x))) ∧ Below w.heap.size w wr) (fun _ i _ => t.bs.length - (intOf i).toNat)
  case atStart => exact ⟨0, none, 0, by omega, rfl, rfl, hidden (World.ownsRow_nil _ _ _ _), Below.refl _ _⟩
  case round =>
    obtain ⟨k, ao5, c5, hk, rfl, rfl, HR, hb⟩ := hrel
    obtain ⟨k1, k2, k3, k4, k5, k6, k7⟩ := HCL.out _ hb
    have hwz := hb.size
    by_cases hlt : k < t.bs.length
    · obtain ⟨g, rfl, hcells⟩ := own_cells HO.out (by omega)
      have ha := cellLater hb (hcells k hlt).1
      have hl' := cellLater hb (hcells k hlt).2
      have hsn := flt_snoc t.bs x k hlt
      have hfl : (fltB (t.bs.take k) x).length ≤ 4096 := by
        have h1 : (fltB (t.bs.take k) x).length ≤ (t.bs.take k).length := List.length_filter_le _ _
        rw [List.length_take] at h1
        omega
      clear hcells
      generalize t.bs[k] = b at *
      obtain ⟨a, l⟩ := b
      simp only at ha hl' hsn
      have d1 : (k : Int) < (t.bs.length : Int) := by omega
      by_cases q : a = x
      · rw [if_pos q] at hsn
        have HSN := hidden hsn
        have d2 : ((a : Int) != (x : Int)) = false := by rw [bne_eq_false_iff_eq]; omega
        clear hsn
        have HQ := hidden q
        clear q
        generalize fltB (t.bs.take k) x = L at *
        go_wp2
        go_roundw
        case rel => exact ⟨k + 1, ao5, c5, by omega, int_eq (by omega), by rw [HSN.out], by rw [HSN.out]; exact HR, hb⟩
        case measure => simp [intOf]; omega
      · rw [if_neg q] at hsn
        have HSN := hidden hsn
        have d2 : ((a : Int) != (x : Int)) = true := by rw [bne_iff_ne]; omega
        clear hsn
        generalize fltB (t.bs.take k) x = L at *
        go_wp2_with (first | (at_builtin; refine wpList_append_own _ rfl (.tmp 26) (.tmp 34) 29 rfl w.heap.size 40 i0 (.agg #[.int .u32 0, .int .u32 0]) 2 8 Try.underlying29 hi hz0 hz1 hz2 rfl (by decide) (.slice ao5 L.length c5) L.length (bksV L) rfl (HR.out.alloc _) ⟨wr.heap.size, 0, none⟩ 1 1 [.int .u32 a, .int .u32 l] rfl rfl (two_newD wr _ _) (by intro u hu; simp at hu; rcases hu with rfl | rfl <;> rfl) (by unfold maxLen; omega) (by omega) (by simp; omega) ?_; intro v2 w2 o2 g2 hx2; obtain ⟨a2, c2, rfl⟩ := own_slice2 o2))
        go_roundw
        case rel =>
          have e : bksV L ++ [.int .u32 a, .int .u32 l] = bksV (L ++ [⟨a, l⟩]) := by rw [bksV_app]; rfl
          rw [e] at o2
          have hln : (L ++ [(⟨a, l⟩ : Bk)]).length = L.length + 1 := by simp
          refine ⟨k + 1, a2, c2, by omega, int_eq (by omega), by rw [HSN.out, hln], by rw [HSN.out, hln]; exact o2, ?_⟩
          refine (hb.alloc hb.size _).grown g2 (by simp; omega) (fun j hj => ?_)
          exact (HR.out.lt j hj).1
        case measure => simp [intOf]; omega
    · obtain rfl : k = t.bs.length := by omega
      have e0 : t.bs.take t.bs.length = t.bs := List.take_of_length_le (Nat.le_refl _)
      rw [e0] at HR ⊢
      have hfe := HFE.out
      have hfs := HFS.out
      unfold dfreeE at hfe
      unfold dfreeS at hfs
      have hfr := HFR.out wr _ (fltB t.bs x) hb HR.out
      have HRR := hidden hfr
      clear hfr HFE HFS
      by_cases z1 : (fltB t.bs x).length = t.bs.length
      · rw [if_pos z1] at hfe hfs
        subst hfe
        obtain rfl : t = FS := hfs.symm
        have f1 : (((fltB t.bs x).length : Int) == (t.bs.length : Int)) = true := by rw [beq_iff_eq]; omega
        have HZ := hidden z1
        clear z1
        go_wp2
        go_ret
        exact ⟨rfl, HSAME.out _ hb⟩
      · rw [if_neg z1] at hfe hfs
        have f1 : ¬ ((fltB t.bs x).length : Int) = (t.bs.length : Int) := by omega
        by_cases z2 : (fltB t.bs x).length = 0
        · rw [if_pos z2] at hfs
          subst hfe hfs
          have f2 : (((fltB t.bs x).length : Int) == 0) = true := by rw [beq_iff_eq]; omega
          have HZ := hidden z2
          clear z2
          go_wp2
          go_ret
          exact ⟨rfl, HRR.out.2⟩
        · rw [if_neg z2] at hfs
          subst hfe hfs
          have f2 : ¬ ((fltB t.bs x).length : Int) = 0 := by omega
          go_wp2
          go_ret
          exact ⟨rfl, HRR.out.1⟩
end Go.Proofs.Ythdbaiddmelhgaa
