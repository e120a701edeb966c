/- Layer 14, the program: where a window lies. -/
import Derived.Test.YtilfgbcbodjegaaP14k
namespace Go.Proofs.Ytilfgbcbodjegaa
open Go.RowKit
set_option maxHeartbeats 1000000
set_option maxRecDepth 100000
set_option linter.unusedVariables false

/-- where a window lies, k pairs below the root at the most -/
def rctF (s : Ps) : Nat → Int → R4
  | 0, _ => ⟨0, 0, s.w, s.h⟩
  | k + 1, x => if (ofW s.L x).p = 0 then ⟨0, 0, s.w, s.h⟩ else
      if (ofW s.L (ofW s.L x).p).a = x then fstR (ofW s.L (ofW s.L x).p) (rctF s k (ofW s.L x).p) (fstV s.L (ofW s.L (ofW s.L x).p) (lenR (ofW s.L (ofW s.L x).p) (rctF s k (ofW s.L x).p)))
      else sndR (ofW s.L (ofW s.L x).p) (rctF s k (ofW s.L x).p) (fstV s.L (ofW s.L (ofW s.L x).p) (lenR (ofW s.L (ofW s.L x).p) (rctF s k (ofW s.L x).p)))
/-- from a window k pairs at the most lead up to the root -/
def Upk (s : Ps) : Nat → Int → Prop
  | 0, x => (ofW s.L x).p = 0
  | k + 1, x => (ofW s.L x).p = 0 ∨ (hasW s.L (ofW s.L x).p ∧ PairW (ofW s.L (ofW s.L x).p) ∧ ((ofW s.L (ofW s.L x).p).a = x ∨ (ofW s.L (ofW s.L x).p).b = x) ∧ Upk s k (ofW s.L x).p)
theorem part_ok {d : Wd} {L : List Wd} {r : R4} (hp : PairW d) (hr : R4Ok r) : R4Ok (fstR d r (fstV L d (lenR d r))) ∧ R4Ok (sndR d r (fstV L d (lenR d r))) := by
  obtain ⟨x0, y0, w0, h0, xw, yh⟩ := hr
  have hb := fst_bd L d (lenR d r) (by unfold lenR; split <;> omega) hp.s0
  unfold fstR sndR
  unfold lenR at *
  split
  · rename_i q
    rw [if_pos q] at hb
    exact ⟨⟨by simp only; omega, by simp only; omega, by simp only; omega, by simp only; omega, by simp only; omega, by simp only; omega⟩, ⟨by simp only; omega, by simp only; omega, by simp only; omega, by simp only; omega, by simp only; omega, by simp only; omega⟩⟩
  · rename_i q
    rw [if_neg q] at hb
    exact ⟨⟨by simp only; omega, by simp only; omega, by simp only; omega, by simp only; omega, by simp only; omega, by simp only; omega⟩, ⟨by simp only; omega, by simp only; omega, by simp only; omega, by simp only; omega, by simp only; omega, by simp only; omega⟩⟩
theorem rct_ok {s : Ps} (hs : scrB s.w s.h = true) : ∀ (k : Nat) (x : Int), Upk s k x → R4Ok (rctF s k x) := by
  have hb : 0 ≤ s.w ∧ s.w ≤ 1000 ∧ 0 ≤ s.h ∧ s.h ≤ 1000 := by unfold scrB at hs; simpa using hs
  have h0 : R4Ok ⟨0, 0, s.w, s.h⟩ := ⟨by simp only; omega, by simp only; omega, by simp only; omega, by simp only; omega, by simp only; omega, by simp only; omega⟩
  intro k
  induction k with
  | zero => intro x _; exact h0
  | succ k ih =>
    intro x hu
    unfold rctF
    split
    · exact h0
    · rename_i hp
      rcases hu with hu | ⟨_, hw, _, hu⟩
      · exact absurd hu hp
      · have := part_ok (L := s.L) hw (ih _ hu)
        split
        · exact this.1
        · exact this.2
set_option maxHeartbeats 8000000 in
theorem place_root {B m : Nat} {v : Value} {s : Ps} {w : World} (h : PAt B w m v s) (i : Nat) (hi : i < s.L.length) (g c : Nat) (hv : v = .slice (some ⟨g, 0, none⟩) s.L.length c) (hp : s.L[i].p = 0) :
    Calls Try.prog 37 #[.pointer (some ⟨m, 0, none⟩), .pointer (some ⟨g, i * 8, none⟩)] w fun e w' => e = .returned (.agg #[.int .i64 0, .int .i64 0, .int .i64 s.w, .int .i64 s.h]) ∧ Below w.heap.size w w' := by
  have hb : Below w.heap.size w (w.alloc (.cells #[.int .i64 0, .int .i64 0, .int .i64 0, .int .i64 0] 36)) := (Below.refl _ _).alloc (Nat.le_refl _) _
  have hr := (h.later hb).row
  rw [hv] at hr
  obtain ⟨c0, c1, c2, c3, c4, c5, c6, c7⟩ := wrow_cells hr i hi
  obtain ⟨d0, d1, d2, d3, d4, d5⟩ := (h.later hb).cells
  rw [hp] at c2
  have HH : Hid ((w.alloc (.cells #[.int .i64 0, .int .i64 0, .int .i64 0, .int .i64 0] 36)).heap[w.heap.size]? = some (.cells (r4V ⟨0, 0, 0, 0⟩) 36 (0, 0))) := hidden (heap_alloc_new w _)
  have HB := hidden hb
  have hml := h.lt
  have hmg : m ≠ w.heap.size := by omega
  generalize s.w = SW at *
  generalize s.h = SH at *
  clear h hr hv hp c0 c1 c3 c4 c5 c6 c7 d2 d3 d4 d5 hb
  go_enter Try.func37, Try.ntmps37
  go_upto_region 2 with fail
  generalize w.alloc (.cells #[.int .i64 0, .int .i64 0, .int .i64 0, .int .i64 0] 36) = W at *
  obtain ⟨z0, z1, z2, z3, zf⟩ := r4_cells HH.out
  have zf0 := zf 0
  have zf1 := zf 1
  have zf2 := zf 2
  have zf3 := zf 3
  have HL := hidden (Nat.le_refl w.heap.size)
  have HZ := hidden z0
  simp only at z0 z1 z2 z3
  clear zf c2
  obtain ⟨G, hG⟩ : ∃ G, w.heap.size = G := ⟨_, rfl⟩
  have HG : Hid (w.heap.size ≤ G) := hidden (by omega)
  rw [hG] at z0 z1 z2 z3 zf0 zf1 zf2 zf3 hmg
  rw [hG]
  have hgm : G ≠ m := fun e => hmg e.symm
  clear hG HH HL HZ
  go_region_held3 (fun w' => w'.cell? ⟨m, 0, none⟩ = some (.int .i64 SW) ∧ w'.cell? ⟨m, 1, none⟩ = some (.int .i64 SH)) (first | assumption | exact ⟨by assumption, by assumption⟩ | go_keep) (fail)
  all_goals (try go_wp2)
  all_goals exact bodyPost_ret (v := .agg #[.int .i64 0, .int .i64 0, .int .i64 SW, .int .i64 SH]) (by simp [results, Try.results37, go_sem, z0, z1, z2, z3]) rfl ⟨rfl, (below_set (below_set (below_set (below_set HB.out G 0 _ HG.out) G 1 _ HG.out) G 2 _ HG.out) G 3 _ HG.out).drew⟩
end Go.Proofs.Ytilfgbcbodjegaa
