/- An act in both: Free of a block. -/
import Derived.Test.YthdbaiddmelhgaaE9m
namespace Go.Proofs.Ythdbaiddmelhgaa
open Go.RowKit
set_option maxHeartbeats 1000000
set_option maxRecDepth 100000
set_option linter.unusedVariables false

theorem does_2 (B h d : Nat) (s : Hs) (w0 w : World) (n a x : Nat) (l : Value) (r : HalfS B h d w0 w s s []) (ok : OkS s) (hn : n < 4294967296) :
    Calls Try.prog 7 #[.pointer (some ⟨h, 0, none⟩), .pointer (some ⟨d, 0, none⟩), .agg #[.int .i64 2, .int .u32 n, .int .u32 a, .int .u32 x, l]] w fun e w' => DoesR B d w0 w' s.most e := by
  have hba : Below w.heap.size w (w.alloc (actO 2 n a x l)) := (Below.refl _ _).alloc (Nat.le_refl _) _
  have HR : Hid (HalfS B h d w0 (w.alloc (actO 2 n a x l)) s s [w.heap.size]) := r.fresh hba w.heap.size (Nat.le_refl _) (by simp)
  have HQ := hidden (heap_alloc_new w (actO 2 n a x l))
  have HK : Hid (∀ w1, Kept (w.alloc (actO 2 n a x l)) w1 [w.heap.size] → w1.heap[w.heap.size]? = some (actO 2 n a x l)) := fun w1 hk => by rw [hk _ (List.mem_singleton.2 rfl)]; exact HQ.out
  have HB := hidden fun w1 gs (r1 : HalfS B h d w0 w1 s s gs) => HalfS.dblocks r1 ok
  have HM := hidden fun y w1 gs (r1 : HalfS B h d w0 w1 s s gs) => HalfS.free y r1 ok
  have HD := hidden fun y w1 gs (r1 : HalfS B h d w0 w1 (freeS s y) s gs) => HalfS.dfree y r1 ok
  have HOK := hidden fun y => And.intro (ok_free y ok) (most_free s y)
  have HO := hidden ok
  have hlen := ok.len
  clear r ok hba
  go_enter Try.func7, Try.ntmps7
  by_cases hz : s.bs.length = 0
  · have e5 : freeE s 0 = 5 := by
      unfold freeE
      rw [if_pos]
      rw [List.eq_nil_of_length_eq_zero hz]
      rfl
    have es : freeS s 0 = s := by
      unfold freeS
      rw [if_pos]
      rw [List.eq_nil_of_length_eq_zero hz]
      rfl
    have dz : ((s.bs.length : Int) == 0) = true := by rw [beq_iff_eq]; omega
    have HZ := hidden hz
    have HM0 := HM.out 0
    rw [e5, es] at HM0
    have HM1 := hidden HM0
    clear hz HM0 e5 es HM HD
    go_wp2_with (first | (go_at_call 10; refine (HB.out _ _ HR.out).mono ?_; rintro e w1 ⟨ao, c, rfl, hbk, r1, k1⟩; have R1 := hidden r1; clear r1) | (go_at_call 15; refine (HM1.out _ _ R1.out).mono ?_; rintro e w2 ⟨rfl, r2, k2⟩; have R2 := hidden r2; clear r2) | (go_at_call 16; refine (num8 _ _).mono ?_; rintro e w9 ⟨rfl, rfl⟩))
    go_ret2
    exact ⟨h, s, rfl, R2.out.less (by simp), HO.out, rfl⟩
  · have dz : ((s.bs.length : Int) == 0) = false := by rw [beq_eq_false_iff_ne]; omega
    have dz2 : ¬ (s.bs.length : Int) = 0 := by omega
    obtain ⟨i, hi⟩ : ∃ i, i = n % s.bs.length := ⟨_, rfl⟩
    have hil : i < s.bs.length := by rw [hi]; exact Nat.mod_lt _ (by omega)
    have him : (n : Int).tmod (s.bs.length : Int) = (i : Int) := by rw [Int.tmod_eq_emod_of_nonneg (by omega), hi]; omega
    have di : (i : Int) < (s.bs.length : Int) := by omega
    have di0 : (0 : Int) ≤ (i : Int) := by omega
    clear hi hz
    go_wp2_with (first | (go_at_call 10; refine (HB.out _ _ HR.out).mono ?_; rintro e w1 ⟨ao, c, rfl, hbk, r1, k1⟩; obtain ⟨j0, j1, j2, j3, j4⟩ := act_cells (w' := w) (HK.out _ k1); obtain ⟨g, off, rfl, hcl⟩ := bks_cells hbk.out (by omega); have hca := (hcl i hil).1; have hcb := (hcl i hil).2; clear hcl; have R1 := hidden r1; clear r1))
    generalize (s.bs[i]).a = y at *
    generalize (s.bs[i]).l = z at *
    have RF : Hid (HalfS B h d w0 ((w1.alloc (.cells #[.int .u32 y, .int .u32 z] 40)).drew) s s [w1.heap.size]) := (((R1.out.less (gs' := []) (by simp)).fresh ((Below.refl w1.heap.size w1).alloc (Nat.le_refl _) _) w1.heap.size (Nat.le_refl _) (by simp)).later ((Below.refl _ _).drew)).1
    have HKB : Hid (∀ w2, Kept (w1.alloc (.cells #[.int .u32 y, .int .u32 z] 40)) w2 [w1.heap.size] → w2.cell? ⟨w1.heap.size, 0, none⟩ = some (.int .u32 y)) := fun w2 hk => by
      have h1 := heap_alloc_new w1 (.cells #[.int .u32 y, .int .u32 z] 40)
      rw [← hk _ (List.mem_singleton.2 rfl)] at h1
      simp [World.cell?, h1]
    have HM1 := hidden (HM.out y)
    have HD1 := hidden (HD.out y)
    have HO1 := hidden (HOK.out y)
    clear HM HD HOK HB HR HQ HK
    generalize freeE s y = A at *
    generalize freeS s y = s1 at *
    have hq0 := HKB.out _ (fun _ _ => rfl)
    go_region_held3 (fun w' => w'.cell? ⟨w1.heap.size, 0, none⟩ = some (.int .u32 y)) (first | assumption | go_keep) (first | (go_at_call 15; refine (HM1.out _ _ RF.out).mono ?_; rintro e w2 ⟨rfl, r2, k2⟩; have R2 := hidden r2; clear r2; have j5 := HKB.out _ k2) | (go_at_call 16; refine (num8 _ _).mono ?_; rintro e w9 ⟨rfl, rfl⟩) | (go_at_call 18; refine (HD1.out _ _ R2.out).mono ?_; rintro e w3 ⟨rfl, r3, k3⟩; have R3 := hidden r3; clear r3; have j6 := HKB.out _ (k2.trans k3)) | fail)
    go_wp2
    go_ret2
    exact ⟨h, s1, rfl, R3.out.less (by simp), HO1.out.1, HO1.out.2⟩
end Go.Proofs.Ythdbaiddmelhgaa
