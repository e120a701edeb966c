/- Two heaps side by side; the walk of HeapLoads. -/
import Derived.Test.YthdbaiddmelhgaaE8w
namespace Go.Proofs.Ythdbaiddmelhgaa
open Go.RowKit
set_option maxHeartbeats 1000000
set_option maxRecDepth 100000
set_option linter.unusedVariables false

/-- two heaps of the call's own, side by side -/
def Run2 (B h g : Nat) (w0 w : World) (s t : Hs) : Prop := ∃ v1 v2, HpAt B w h v1 s ∧ HpAt B w g v2 t ∧ g ≠ h ∧ (∀ k, v1.ownBlock = some k → v2.ownBlock ≠ some k) ∧ Below B w0 w ∧ B ≤ w.heap.size
theorem Run2.swap {B h g : Nat} {w0 w : World} {s t : Hs} (r : Run2 B h g w0 w s t) : Run2 B g h w0 w t s := by
  obtain ⟨v1, v2, h1, h2, h3, h4, h5, h6⟩ := r
  exact ⟨v2, v1, h2, h1, fun e => h3 e.symm, fun k hk e => h4 k e hk, h5, h6⟩
theorem Run2.run {B h g : Nat} {w0 w : World} {s t : Hs} (r : Run2 B h g w0 w s t) : Run B h w0 w s := by
  obtain ⟨v1, v2, h1, h2, h3, h4, h5, h6⟩ := r
  exact ⟨v1, h1, h5, h6⟩
theorem Run2.next {B h g : Nat} {w0 w w' : World} {v1 v2 : Value} {s t s' : Hs} (h1 : HpAt B w h v1 s) (h2 : HpAt B w g v2 t) (h3 : g ≠ h) (h4 : ∀ k, v1.ownBlock = some k → v2.ownBlock ≠ some k) (h5 : Below B w0 w) (h6 : B ≤ w.heap.size) (l : Left B w w' h v1 s') : Run2 B h g w0 w' s' t := by
  obtain ⟨v', hp', f⟩ := l
  refine ⟨v', v2, hp', f.other h1 h2 h3 (fun k hk e => h4 k e hk), h3, fun k hk e => ?_, h5.trans (f.below h1 h6), Nat.le_trans h6 f.size⟩
  rcases f.row k hk with h' | h'
  · exact h4 k h' e
  · have := (h2.2.2.lt k e).2; omega
theorem Run2.later {B h g : Nat} {w0 w w' : World} {s t : Hs} (r : Run2 B h g w0 w s t) (hb : Below w.heap.size w w') : Run2 B h g w0 w' s t := by
  obtain ⟨v1, v2, h1, h2, h3, h4, h5, h6⟩ := r
  exact ⟨v1, v2, h1.later hb, h2.later hb, h3, h4, h5.trans (hb.mono h6), Nat.le_trans h6 hb.size⟩
theorem Run2.drew {B h g : Nat} {w0 w : World} {s t : Hs} (r : Run2 B h g w0 w s t) : Run2 B h g w0 w.drew s t := r.later ((Below.refl _ _).drew)
theorem Run2.below {B h g : Nat} {w0 w : World} {s t : Hs} (r : Run2 B h g w0 w s t) : Below B w0 w := r.run.below
theorem Run2.new {B h : Nat} {w0 w : World} {s : Hs} (m : Nat) (r : Run B h w0 w s) : Calls Try.prog 6 #[.int .u32 m] w fun e w' => e = .returned (.pointer (some ⟨w.heap.size, 0, none⟩)) ∧ Run2 B h w.heap.size w0 w' s ⟨m, 0, 0, []⟩ := by
  obtain ⟨v, hp, hb, hB⟩ := r
  refine (new_any m w).mono ?_
  rintro e w' ⟨rfl, hn, hb'⟩
  have hlt : h < w.heap.size := (Array.getElem?_eq_some_iff.1 hp.2.1).1
  exact ⟨rfl, v, _, hp.later hb', ⟨hB, hn.2.1, Joins.ownsRow_le hn.2.2 hB⟩, by omega, (fun k _ e => by cases e), hb.trans (hb'.mono hB), Nat.le_trans hB hb'.size⟩
theorem Run2.any {B h g : Nat} {w0 w : World} {s t : Hs} {n x : Nat} (r : Run2 B h g w0 w s t) (ok : OkS s) (hn2 : n < 4294967296) (hx : x < 4294967296) :
    Calls Try.prog 14 #[.pointer (some ⟨h, 0, none⟩), .int .u32 n, .int .u32 x] w fun e w' => e = .returned (.tuple #[.int .u32 (mallocA s n x : Nat), .bool (mallocB s n x)]) ∧ Run2 B h g w0 w' (mallocS s n x) t := by
  obtain ⟨v1, v2, h1, h2, h3, h4, h5, h6⟩ := r
  exact (malloc_any B h v1 s n x w h1 h6 ok hn2 hx).mono (fun e w' hh => ⟨hh.1, Run2.next h1 h2 h3 h4 h5 h6 hh.2⟩)
theorem Run2.free {B h g : Nat} {w0 w : World} {s t : Hs} (x : Nat) (r : Run2 B h g w0 w s t) (ok : OkS s) :
    Calls Try.prog 15 #[.pointer (some ⟨h, 0, none⟩), .int .u32 x] w fun e w' => e = .returned (.int .i64 (freeE s x : Nat)) ∧ Run2 B h g w0 w' (freeS s x) t := by
  obtain ⟨v1, v2, h1, h2, h3, h4, h5, h6⟩ := r
  exact (free_any B h v1 s x w h1 ok.len).mono (fun e w' hh => ⟨hh.1, Run2.next h1 h2 h3 h4 h5 h6 hh.2⟩)
theorem Run2.load {B h g : Nat} {w0 w : World} {s t : Hs} (x y : Nat) (ao : Option Addr) (n c : Nat) (bs : List Bk) (r : Run2 B h g w0 w s t) (hk : Bks w ao n c bs) (hf : FitB bs) (hx : x < 4294967296) (hy : y < 4294967296) :
    Calls Try.prog 19 #[.pointer (some ⟨h, 0, none⟩), .int .u32 x, .int .u32 y, .slice ao n c] w fun e w' => e = .returned (.int .i64 (loadE s x y bs : Nat)) ∧ Run2 B h g w0 w' (loadS s x y bs) t := by
  obtain ⟨v1, v2, h1, h2, h3, h4, h5, h6⟩ := r
  exact (load_any B h v1 s x y ao n c bs w h1 h6 hk hf hx hy).mono (fun e w' hh => ⟨hh.1, Run2.next h1 h2 h3 h4 h5 h6 hh.2⟩)
theorem Run2.blocks {B h g : Nat} {w0 w : World} {s t : Hs} (r : Run2 B h g w0 w s t) (ok : OkS s) : Calls Try.prog 9 #[.pointer (some ⟨h, 0, none⟩)] w fun e w' => ∃ ao c, e = .returned (.slice ao s.bs.length c) ∧ Hid (Bks w' ao s.bs.length c s.bs) ∧ Run2 B h g w0 w' s t ∧ Hid (Below w.heap.size w w') := by
  have r0 := r
  obtain ⟨v1, v2, h1, h2, h3, h4, h5, h6⟩ := r
  refine (blocks_any B h v1 s w h1 ok.len).mono ?_
  rintro e w' ⟨ao, c, rfl, ho, hb'⟩
  exact ⟨ao, c, rfl, own_bks ho, r0.later hb', hb'⟩
theorem chain_fit {e f : Nat} {bs : List Bk} (he : e < 4294967296) (hc : Chain e f bs) : FitB bs := by
  induction bs generalizing f with
  | nil => intro b hb; cases hb
  | cons b bs ih =>
    intro x hx
    have hle := hc.2.2.le
    rcases List.mem_cons.1 hx with rfl | h
    · exact ⟨by omega, by omega⟩
    · exact ih hc.2.2 x h
theorem ok_fit {s : Hs} (ok : OkS s) : FitB s.bs ∧ s.start < 4294967296 ∧ s.en < 4294967296 := by
  by_cases h : 0 < s.bs.length
  · obtain ⟨o1, o2, o3, o4, o5⟩ := ok.some h
    have := ok.most
    have := o5.le
    exact ⟨chain_fit (by omega) o5, by omega, by omega⟩
  · have := ok.nil (by omega)
    have hb : s.bs = [] := List.eq_nil_of_length_eq_zero (by omega)
    refine ⟨?_, by omega, by omega⟩
    rw [hb]; intro b hb; cases hb
theorem load_back {s t : Hs} (ok : OkS s) (hm : t.most = s.most) : loadE t s.start s.en s.bs = 0 ∧ loadS t s.start s.en s.bs = s := by
  have hl := ok.len
  have hmay : mayR t.most s.start s.en s.bs = true := by
    unfold mayR
    split
    · rename_i h
      have := ok.nil h
      simp [this]
    · rename_i h
      obtain ⟨o1, o2, o3, o4, o5⟩ := ok.some (by omega)
      simp [o1, o2, o3, hm, o4, (chainB_iff _ _ _).2 o5]
  have e1 : ¬ 4096 < s.bs.length := by omega
  unfold loadE loadS
  rw [if_neg e1, if_neg e1, if_pos hmay, if_pos hmay, hm]
  exact ⟨rfl, rfl⟩
end Go.Proofs.Ythdbaiddmelhgaa
