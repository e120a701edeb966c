/- The program's heap and the document's, each some calls on, beside blocks that are left alone. -/
import Derived.Test.YthdbaiddmelhgaaE9h
namespace Go.Proofs.Ythdbaiddmelhgaa
open Go.RowKit
set_option maxHeartbeats 1000000
set_option maxRecDepth 100000
set_option linter.unusedVariables false

def Kept (w w' : World) (gs : List Nat) : Prop := ∀ g ∈ gs, w'.heap[g]? = w.heap[g]?
theorem Kept.trans {w w1 w2 : World} {gs : List Nat} (h : Kept w w1 gs) (h' : Kept w1 w2 gs) : Kept w w2 gs := fun g hg => (h' g hg).trans (h g hg)
/-- the program's heap is at s, the document's is like s2; the blocks gs are no part of either -/
def HalfS (B h d : Nat) (w0 w : World) (s s2 : Hs) (gs : List Nat) : Prop := ∃ t v u, HpAt B w h v s ∧ DpAt B w d u t ∧ (∀ k, v.ownBlock = some k → u.ownBlock ≠ some k) ∧ Below B w0 w ∧ B ≤ w.heap.size ∧ Like s2 t ∧ ∀ g ∈ gs, g < w.heap.size ∧ g ≠ h ∧ g ≠ d ∧ v.ownBlock ≠ some g ∧ u.ownBlock ≠ some g
theorem HalfS.nextH {B h d : Nat} {w0 w w' : World} {v u : Value} {s t s' s2 : Hs} {gs : List Nat} (h1 : HpAt B w h v s) (h2 : DpAt B w d u t) (h4 : ∀ k, v.ownBlock = some k → u.ownBlock ≠ some k) (h5 : Below B w0 w) (h6 : B ≤ w.heap.size) (lk : Like s2 t) (hg : ∀ g ∈ gs, g < w.heap.size ∧ g ≠ h ∧ g ≠ d ∧ v.ownBlock ≠ some g ∧ u.ownBlock ≠ some g) (l : Left B w w' h v s') : HalfS B h d w0 w' s' s2 gs ∧ Kept w w' gs := by
  obtain ⟨v', hp', f⟩ := l
  have hd : w'.heap[d]? = w.heap[d]? := f.block d (Array.getElem?_eq_some_iff.1 h2.2.1).1 (fun e => hp_ne_dp h1 h2 e.symm) (own_ne_dp h1.2.2 h2.2.1)
  refine ⟨⟨t, v', u, hp', ⟨h2.1, by rw [hd]; exact h2.2.1, fr_row f h2.2.2 (own_ne_hp h2.2.2 h1.2.1) (fun k hk e => h4 k e hk)⟩, fun k hk e => ?_, h5.trans (f.below h1 h6), Nat.le_trans h6 f.size, lk, fun g hm => ?_⟩, fun g hm => f.block g (hg g hm).1 (hg g hm).2.1 (hg g hm).2.2.2.1⟩
  · rcases f.row k hk with h' | h'
    · exact h4 k h' e
    · have := (h2.2.2.lt k e).2; omega
  · obtain ⟨g1, g2, g3, g4, g5⟩ := hg g hm
    refine ⟨Nat.lt_of_lt_of_le g1 f.size, g2, g3, fun e => ?_, g5⟩
    rcases f.row g e with h' | h'
    · exact g4 h'
    · omega
theorem HalfS.nextD {B h d : Nat} {w0 w w' : World} {v u : Value} {s t t' s2 : Hs} {gs : List Nat} (h1 : HpAt B w h v s) (h2 : DpAt B w d u t) (h4 : ∀ k, v.ownBlock = some k → u.ownBlock ≠ some k) (h5 : Below B w0 w) (h6 : B ≤ w.heap.size) (lk : Like s2 t') (hg : ∀ g ∈ gs, g < w.heap.size ∧ g ≠ h ∧ g ≠ d ∧ v.ownBlock ≠ some g ∧ u.ownBlock ≠ some g) (l : LeftD B w w' d u t') : HalfS B h d w0 w' s s2 gs ∧ Kept w w' gs := by
  obtain ⟨u', hp', f⟩ := l
  have hd : w'.heap[h]? = w.heap[h]? := f.block h (Array.getElem?_eq_some_iff.1 h1.2.1).1 (hp_ne_dp h1 h2) (own_ne_hp h2.2.2 h1.2.1)
  refine ⟨⟨t', v, u', ⟨h1.1, by rw [hd]; exact h1.2.1, fr_row f h1.2.2 (own_ne_dp h1.2.2 h2.2.1) h4⟩, hp', fun k hk e => ?_, h5.trans (h2.below h6 f), Nat.le_trans h6 f.size, lk, fun g hm => ?_⟩, fun g hm => f.block g (hg g hm).1 (hg g hm).2.2.1 (hg g hm).2.2.2.2⟩
  · rcases f.row k e with h' | h'
    · exact h4 k hk h'
    · have := (h1.2.2.lt k hk).2; omega
  · obtain ⟨g1, g2, g3, g4, g5⟩ := hg g hm
    refine ⟨Nat.lt_of_lt_of_le g1 f.size, g2, g3, g4, fun e => ?_⟩
    rcases f.row g e with h' | h'
    · exact g5 h'
    · omega
theorem HalfS.later {B h d : Nat} {w0 w w' : World} {s s2 : Hs} {gs : List Nat} (r : HalfS B h d w0 w s s2 gs) (hb : Below w.heap.size w w') : HalfS B h d w0 w' s s2 gs ∧ Kept w w' gs := by
  obtain ⟨t, v, u, h1, h2, h4, h5, h6, lk, hg⟩ := r
  exact ⟨⟨t, v, u, h1.later hb, h2.later hb, h4, h5.trans (hb.mono h6), Nat.le_trans h6 hb.size, lk, fun g hm => ⟨Nat.lt_of_lt_of_le (hg g hm).1 hb.size, (hg g hm).2⟩⟩, fun g hm => hb.block g (hg g hm).1⟩
/-- a block that came anew is no part of either -/
theorem HalfS.fresh {B h d : Nat} {w0 w w' : World} {s s2 : Hs} {gs : List Nat} (r : HalfS B h d w0 w s s2 gs) (hb : Below w.heap.size w w') (g : Nat) (hg1 : w.heap.size ≤ g) (hg2 : g < w'.heap.size) : HalfS B h d w0 w' s s2 (g :: gs) := by
  obtain ⟨t, v, u, h1, h2, h4, h5, h6, lk, hg⟩ := r
  refine ⟨t, v, u, h1.later hb, h2.later hb, h4, h5.trans (hb.mono h6), Nat.le_trans h6 hb.size, lk, fun k hm => ?_⟩
  rcases List.mem_cons.1 hm with rfl | hm
  · have n1 := (Array.getElem?_eq_some_iff.1 h1.2.1).1
    have n2 := (Array.getElem?_eq_some_iff.1 h2.2.1).1
    exact ⟨hg2, by omega, by omega, fun e => by have := (h1.2.2.lt _ e).2; omega, fun e => by have := (h2.2.2.lt _ e).2; omega⟩
  · exact ⟨Nat.lt_of_lt_of_le (hg k hm).1 hb.size, (hg k hm).2⟩
theorem HalfS.less {B h d : Nat} {w0 w : World} {s s2 : Hs} {gs gs' : List Nat} (r : HalfS B h d w0 w s s2 gs) (hs : ∀ g ∈ gs', g ∈ gs) : HalfS B h d w0 w s s2 gs' := by
  obtain ⟨t, v, u, h1, h2, h4, h5, h6, lk, hg⟩ := r
  exact ⟨t, v, u, h1, h2, h4, h5, h6, lk, fun g hm => hg g (hs g hm)⟩
theorem HalfS.run {B h d : Nat} {w0 w : World} {s s2 : Hs} {gs : List Nat} (r : HalfS B h d w0 w s s2 gs) : Run B h w0 w s := by
  obtain ⟨t, v, u, h1, h2, h4, h5, h6, lk, hg⟩ := r
  exact ⟨v, h1, h5, h6⟩
theorem HalfS.malloc {B h d : Nat} {w0 w : World} {s s2 : Hs} {gs : List Nat} {n x : Nat} (r : HalfS B h d w0 w s s2 gs) (ok : OkS s) (hn2 : n < 4294967296) (hx : x < 4294967296) :
    Calls Try.prog 14 #[.pointer (some ⟨h, 0, none⟩), .int .u32 n, .int .u32 x] w fun e w' => e = .returned (.tuple #[.int .u32 (mallocA s n x : Nat), .bool (mallocB s n x)]) ∧ HalfS B h d w0 w' (mallocS s n x) s2 gs ∧ Kept w w' gs := by
  obtain ⟨t, v, u, h1, h2, h4, h5, h6, lk, hg⟩ := r
  exact (malloc_any B h v s n x w h1 h6 ok hn2 hx).mono (fun e w' hh => ⟨hh.1, HalfS.nextH h1 h2 h4 h5 h6 lk hg hh.2⟩)
theorem HalfS.free {B h d : Nat} {w0 w : World} {s s2 : Hs} {gs : List Nat} (x : Nat) (r : HalfS B h d w0 w s s2 gs) (ok : OkS s) :
    Calls Try.prog 15 #[.pointer (some ⟨h, 0, none⟩), .int .u32 x] w fun e w' => e = .returned (.int .i64 (freeE s x : Nat)) ∧ HalfS B h d w0 w' (freeS s x) s2 gs ∧ Kept w w' gs := by
  obtain ⟨t, v, u, h1, h2, h4, h5, h6, lk, hg⟩ := r
  exact (free_any B h v s x w h1 ok.len).mono (fun e w' hh => ⟨hh.1, HalfS.nextH h1 h2 h4 h5 h6 lk hg hh.2⟩)
theorem HalfS.load {B h d : Nat} {w0 w : World} {s s2 : Hs} {gs : List Nat} (x y : Nat) (ao : Option Addr) (n c : Nat) (bs : List Bk) (r : HalfS B h d w0 w s s2 gs) (hk : Bks w ao n c bs) (hf : FitB bs) (hx : x < 4294967296) (hy : y < 4294967296) :
    Calls Try.prog 19 #[.pointer (some ⟨h, 0, none⟩), .int .u32 x, .int .u32 y, .slice ao n c] w fun e w' => e = .returned (.int .i64 (loadE s x y bs : Nat)) ∧ HalfS B h d w0 w' (loadS s x y bs) s2 gs ∧ Kept w w' gs := by
  obtain ⟨t, v, u, h1, h2, h4, h5, h6, lk, hg⟩ := r
  exact (load_any B h v s x y ao n c bs w h1 h6 hk hf hx hy).mono (fun e w' hh => ⟨hh.1, HalfS.nextH h1 h2 h4 h5 h6 lk hg hh.2⟩)
theorem HalfS.dmalloc {B h d : Nat} {w0 w : World} {s s2 : Hs} {gs : List Nat} {n x : Nat} (r : HalfS B h d w0 w s s2 gs) (ok : OkS s2) (hn2 : n < 4294967296) (hx : x < 4294967296) :
    Calls Try.prog 17 #[.pointer (some ⟨d, 0, none⟩), .int .u32 n, .int .u32 x] w fun e w' => e = .returned (.tuple #[.int .u32 (mallocA s2 n x : Nat), .bool (mallocB s2 n x)]) ∧ HalfS B h d w0 w' s (mallocS s2 n x) gs ∧ Kept w w' gs := by
  obtain ⟨t, v, u, h1, h2, h4, h5, h6, lk, hg⟩ := r
  exact (dMal_any B d u s2 t n x w h2 h6 ok lk hn2 hx).mono (fun e w' hh => by
    obtain ⟨he, t', hl, lk'⟩ := hh
    exact ⟨he, HalfS.nextD h1 h2 h4 h5 h6 lk' hg hl⟩)
theorem HalfS.dfree {B h d : Nat} {w0 w : World} {s s2 : Hs} {gs : List Nat} (x : Nat) (r : HalfS B h d w0 w s s2 gs) (ok : OkS s2) :
    Calls Try.prog 18 #[.pointer (some ⟨d, 0, none⟩), .int .u32 x] w fun e w' => e = .returned (.int .i64 (freeE s2 x : Nat)) ∧ HalfS B h d w0 w' s (freeS s2 x) gs ∧ Kept w w' gs := by
  obtain ⟨t, v, u, h1, h2, h4, h5, h6, lk, hg⟩ := r
  exact (dFr_any B d u s2 t x w h2 h6 ok lk).mono (fun e w' hh => by
    obtain ⟨he, t', hl, lk'⟩ := hh
    exact ⟨he, HalfS.nextD h1 h2 h4 h5 h6 lk' hg hl⟩)
theorem HalfS.dload {B h d : Nat} {w0 w : World} {s s2 : Hs} {gs : List Nat} (x y : Nat) (ao : Option Addr) (n c : Nat) (bs : List Bk) (r : HalfS B h d w0 w s s2 gs) (hk : Bks w ao n c bs) (hf : FitB bs) (hx : x < 4294967296) (hy : y < 4294967296) :
    Calls Try.prog 20 #[.pointer (some ⟨d, 0, none⟩), .int .u32 x, .int .u32 y, .slice ao n c] w fun e w' => e = .returned (.int .i64 (loadE s2 x y bs : Nat)) ∧ HalfS B h d w0 w' s (loadS s2 x y bs) gs ∧ Kept w w' gs := by
  obtain ⟨t, v, u, h1, h2, h4, h5, h6, lk, hg⟩ := r
  exact (dLd_any B d u s2 t x y ao n c bs w h2 h6 lk hk hf hx hy).mono (fun e w' hh => by
    obtain ⟨he, t', hl, lk'⟩ := hh
    exact ⟨he, HalfS.nextD h1 h2 h4 h5 h6 lk' hg hl⟩)
theorem HalfS.dblocks {B h d : Nat} {w0 w : World} {s s2 : Hs} {gs : List Nat} (r : HalfS B h d w0 w s s2 gs) (ok : OkS s2) :
    Calls Try.prog 10 #[.pointer (some ⟨d, 0, none⟩)] w fun e w' => ∃ ao c, e = .returned (.slice ao s2.bs.length c) ∧ Hid (Bks w' ao s2.bs.length c s2.bs) ∧ HalfS B h d w0 w' s s2 gs ∧ Kept w w' gs := by
  have r' := r
  obtain ⟨t, v, u, h1, h2, h4, h5, h6, lk, hg⟩ := r
  exact (dBl_any B d u s2 t w h2 ok lk).mono (fun e w' hh => by
    obtain ⟨ao, c, he, ho, hb⟩ := hh
    exact ⟨ao, c, he, own_bks ho, r'.later hb⟩)
theorem HalfS.blocks {B h d : Nat} {w0 w : World} {s s2 : Hs} {gs : List Nat} (r : HalfS B h d w0 w s s2 gs) (ok : OkS s) :
    Calls Try.prog 9 #[.pointer (some ⟨h, 0, none⟩)] w fun e w' => ∃ ao c, e = .returned (.slice ao s.bs.length c) ∧ Hid (w'.ownsRow w.heap.size 40 2 (.slice ao s.bs.length c) s.bs.length (bksV s.bs)) ∧ Below w.heap.size w w' ∧ HalfS B h d w0 w' s s2 gs ∧ Kept w w' gs := by
  have r' := r
  obtain ⟨t, v, u, h1, h2, h4, h5, h6, lk, hg⟩ := r
  exact (blocks_any B h v s w h1 ok.len).mono (fun e w' hh => by
    obtain ⟨ao, c, he, ho, hb⟩ := hh
    exact ⟨ao, c, he, ho, hb, r'.later hb⟩)
/-- a store into a block that is no part of either -/
theorem HalfS.set {B h d : Nat} {w0 w : World} {s s2 : Hs} {gs : List Nat} (r : HalfS B h d w0 w s s2 gs) (g i : Nat) (x : Value) (hm : g ∈ gs) (hB : B ≤ g) : HalfS B h d w0 (w.setCell ⟨g, i, none⟩ x) s s2 gs := by
  obtain ⟨t, v, u, h1, h2, h4, h5, h6, lk, hg⟩ := r
  obtain ⟨g1, g2, g3, g4, g5⟩ := hg g hm
  have hoth : ∀ k, k ≠ g → (w.setCell ⟨g, i, none⟩ x).heap[k]? = w.heap[k]? := fun k hk => heap_setCell_other _ _ _ _ (by simpa using hk)
  refine ⟨t, v, u, ⟨h1.1, by rw [hoth h (fun e => g2 e.symm)]; exact h1.2.1, ownsRow_setCell_other h1.2.2 (by simpa using g4) _⟩, ⟨h2.1, by rw [hoth d (fun e => g3 e.symm)]; exact h2.2.1, ownsRow_setCell_other h2.2.2 (by simpa using g5) _⟩, h4, ?_, by simpa using h6, lk, fun k hk => ⟨by have := (hg k hk).1; simpa using this, (hg k hk).2⟩⟩
  exact h5.trans ⟨rfl, rfl, rfl, by simp, fun k hk => hoth k (by omega)⟩
end Go.Proofs.Ythdbaiddmelhgaa
