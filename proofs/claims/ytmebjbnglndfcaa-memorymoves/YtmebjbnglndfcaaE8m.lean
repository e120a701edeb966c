/- Heaps stay in order whatever is called; the page's example. -/
import Derived.Test.YtmebjbnglndfcaaE8l
namespace Go.Proofs.Ytmebjbnglndfcaa
open Go.RowKit
set_option maxHeartbeats 1000000
set_option maxRecDepth 100000
set_option linter.unusedVariables false

theorem Chain.mono {e e' : Nat} (h : e ≤ e') : ∀ {f : Nat} {bs : List Bk}, Chain e f bs → Chain e' f bs
  | f, [], hc => Nat.le_trans hc h
  | f, b :: bs, hc => ⟨hc.1, hc.2.1, Chain.mono h hc.2.2⟩
theorem Chain.from {e : Nat} : ∀ {f f' : Nat} {bs : List Bk}, f' ≤ f → Chain e f bs → Chain e f' bs
  | f, f', [], h, hc => Nat.le_trans h hc
  | f, f', b :: bs, h, hc => ⟨hc.1, Nat.le_trans h hc.2.1, hc.2.2⟩
theorem chain_ins {e e' n : Nat} (hn : 0 < n) (hee : e ≤ e') : ∀ {f : Nat} {bs : List Bk}, Chain e f bs → (place n f bs).2 + n ≤ e' → Chain e' f (bs.take (place n f bs).1 ++ ⟨(place n f bs).2, n⟩ :: bs.drop (place n f bs).1)
  | f, [], hc, ha => ⟨hn, Nat.le_refl _, ha⟩
  | f, b :: bs, hc, ha => by
    unfold place at ha ⊢
    split
    · rename_i h
      rw [if_pos h] at ha
      have h1 := hc.2.1
      exact ⟨hn, Nat.le_refl _, hc.1, (by show f + n ≤ b.a; omega), Chain.mono hee hc.2.2⟩
    · rename_i h
      rw [if_neg h] at ha
      exact ⟨hc.1, hc.2.1, chain_ins hn hee hc.2.2 ha⟩
theorem chain_del {e : Nat} : ∀ {f : Nat} {bs : List Bk} (i : Nat), Chain e f bs → Chain e f (bs.take i ++ bs.drop (i + 1))
  | f, [], i, hc => by simpa using hc
  | f, b :: bs, 0, hc => by
    simp only [List.take_zero, List.nil_append, Nat.zero_add, List.drop_succ_cons, List.drop_zero]
    exact hc.2.2.from (by have := hc.2.1; omega)
  | f, b :: bs, i + 1, hc => ⟨hc.1, hc.2.1, chain_del i hc.2.2⟩
theorem up_ge (x : Nat) : x ≤ up x := by unfold up; omega
theorem up_mod (x : Nat) : up x % 256 = 0 := by unfold up; omega
theorem insB_len (s : Hs) (n x : Nat) : (insB s n x).length = s.bs.length + 1 := by
  have := place_le n (stR s x) s.bs
  unfold insB
  simp; omega
theorem ok_malloc_to {s s' : Hs} {n x a : Nat} (ok : OkS s) (hr : mallocR s n x = some (a, s')) : OkS s' := by
  unfold mallocR at hr
  split at hr
  · cases hr
  · rename_i c1
    split at hr
    · cases hr
    · rename_i c2
      have hl := insB_len s n x
      have hch : ∃ e, Chain e (stR s x) s.bs ∧ e ≤ enR s x ∧ stR s x ≠ 0 ∧ stR s x % 256 = 0 ∧ enR s x % 256 = 0 ∧ enR s x ≤ s.most := by
        by_cases h0 : s.bs.length = 0
        · have hb : begR s.most x = true := by
            cases hq : begR s.most x with
            | true => rfl
            | false => exact absurd ⟨h0, hq⟩ c2
          obtain ⟨b1, b2, b3⟩ := begR_true hb
          have hbs : s.bs = [] := List.eq_nil_of_length_eq_zero h0
          have e1 : stR s x = x := by simp [stR, h0]
          have e2 : enR s x = x := by simp [enR, h0]
          rw [e1, e2, hbs]
          exact ⟨x, Nat.le_refl _, Nat.le_refl _, b1, b2, b2, b3⟩
        · obtain ⟨o1, o2, o3, o4, o5⟩ := ok.some (by omega)
          have e1 : stR s x = s.start := by simp [stR, h0]
          have e2 : enR s x = s.en := by simp [enR, h0]
          rw [e1, e2]
          exact ⟨s.en, o5, Nat.le_refl _, o1, o2, o3, o4⟩
      obtain ⟨e, h1, h2, h3, h4, h5, h6⟩ := hch
      split at hr
      · rename_i c3
        cases hr
        exact ⟨ok.most, by simp only; omega, fun h => by simp only at h; omega, fun _ => ⟨h3, h4, h5, h6, chain_ins (by omega) h2 h1 c3⟩⟩
      · rename_i c3
        split at hr
        · cases hr
        · rename_i c4
          cases hr
          have hu := up_ge ((place n (stR s x) s.bs).2 + n)
          exact ⟨ok.most, by simp only; omega, fun h => by simp only at h; omega, fun _ => ⟨h3, h4, up_mod _, (by show up _ ≤ s.most; omega), chain_ins (by omega) (by show e ≤ up _; omega) h1 hu⟩⟩
theorem ok_malloc {s : Hs} (n x : Nat) (ok : OkS s) : OkS (mallocS s n x) := by
  unfold mallocS
  cases hr : mallocR s n x with
  | none => exact ok
  | some r => exact ok_malloc_to ok hr
theorem most_malloc (s : Hs) (n x : Nat) : (mallocS s n x).most = s.most := by
  unfold mallocS mallocR
  split
  · rfl
  · rename_i r h
    split at h
    · cases h
    · split at h
      · cases h
      · split at h
        · cases h; rfl
        · split at h
          · cases h
          · cases h; rfl
theorem ok_free {s : Hs} (x : Nat) (ok : OkS s) : OkS (freeS s x) := by
  have hle := idxB_le x s.bs
  have hl := ok.len
  unfold freeS
  split
  · exact ok
  · rename_i c1
    have hd : (s.bs.take (idxB x s.bs) ++ s.bs.drop (idxB x s.bs + 1)).length = s.bs.length - 1 := by simp; omega
    split
    · rename_i c2
      exact ⟨ok.most, by simp only [hd]; omega, fun _ => ⟨rfl, rfl⟩, fun h => by simp only [hd] at h; omega⟩
    · rename_i c2
      obtain ⟨o1, o2, o3, o4, o5⟩ := ok.some (by omega)
      exact ⟨ok.most, by simp only [hd]; omega, fun h => by simp only [hd] at h; omega, fun _ => ⟨o1, o2, o3, o4, chain_del _ o5⟩⟩
theorem most_free (s : Hs) (x : Nat) : (freeS s x).most = s.most := by unfold freeS; split <;> (try split) <;> rfl
theorem ok_load {s : Hs} (x y : Nat) (bs : List Bk) (ok : OkS s) : OkS (loadS s x y bs) := by
  unfold loadS
  split
  · exact ok
  · split
    · rename_i c1 c2
      unfold mayR at c2
      split at c2
      · rename_i c3
        simp at c2
        exact ⟨ok.most, by simp only; omega, fun _ => c2, fun h => by simp only at h; omega⟩
      · rename_i c3
        simp only [Bool.and_eq_true, decide_eq_true_eq] at c2
        obtain ⟨⟨⟨⟨d1, d2⟩, d3⟩, d4⟩, d5⟩ := c2
        exact ⟨ok.most, by simp only; omega, fun h => by simp only at h; omega, fun _ => ⟨d1, d2, d3, d4, (chainB_iff _ _ _).1 d5⟩⟩
    · exact ok
theorem most_load (s : Hs) (x y : Nat) (bs : List Bk) : (loadS s x y bs).most = s.most := by unfold loadS; split <;> (try split) <;> rfl
theorem ok_new {m : Nat} (hm : m < 4294967296) : OkS ⟨m, 0, 0, []⟩ := ⟨hm, by simp, fun _ => ⟨rfl, rfl⟩, fun h => by simp at h⟩
theorem malloc_to (B h : Nat) (v : Value) (s s' : Hs) (n x a : Nat) (w : World) (hp : HpAt B w h v s) (hB : B ≤ w.heap.size) (ok : OkS s) (hn2 : n < 4294967296) (hx : x < 4294967296) (hr : mallocR s n x = some (a, s')) :
    Calls Try.prog 47 #[.pointer (some ⟨h, 0, none⟩), .int .u32 n, .int .u32 x] w fun e w' => e = .returned (.tuple #[.int .u32 a, .bool true]) ∧ Left B w w' h v s' := by
  have := malloc_any B h v s n x w hp hB ok hn2 hx
  unfold mallocA mallocB mallocS at this
  rw [hr] at this
  exact this
theorem malloc_no (B h : Nat) (v : Value) (s : Hs) (n x : Nat) (w : World) (hp : HpAt B w h v s) (hB : B ≤ w.heap.size) (ok : OkS s) (hn2 : n < 4294967296) (hx : x < 4294967296) (hr : mallocR s n x = none) :
    Calls Try.prog 47 #[.pointer (some ⟨h, 0, none⟩), .int .u32 n, .int .u32 x] w fun e w' => e = .returned (.tuple #[.int .u32 0, .bool false]) ∧ Left B w w' h v s := by
  have := malloc_any B h v s n x w hp hB ok hn2 hx
  unfold mallocA mallocB mallocS at this
  rw [hr] at this
  exact this
theorem Left.below {B : Nat} {w w' : World} {h : Nat} {v : Value} {s s' : Hs} (hp : HpAt B w h v s) (hB : B ≤ w.heap.size) (l : Left B w w' h v s') : Below B w w' := by
  obtain ⟨v', _, f⟩ := l
  exact f.below hp hB
/-- a heap of the call's own, some calls on: it is there, in this state, and nothing below B has changed -/
def Run (B h : Nat) (w0 w : World) (s : Hs) : Prop := ∃ v, HpAt B w h v s ∧ Below B w0 w ∧ B ≤ w.heap.size
theorem Run.next {B h : Nat} {w0 w w' : World} {v : Value} {s s' : Hs} (hp : HpAt B w h v s) (hb : Below B w0 w) (hB : B ≤ w.heap.size) (l : Left B w w' h v s') : Run B h w0 w' s' := by
  obtain ⟨v', hp', f⟩ := l
  exact ⟨v', hp', hb.trans (f.below hp hB), Nat.le_trans hB f.size⟩
theorem Run.malloc {B h : Nat} {w0 w : World} {s s' : Hs} {n x a : Nat} (r : Run B h w0 w s) (ok : OkS s) (hn2 : n < 4294967296) (hx : x < 4294967296) (hr : mallocR s n x = some (a, s')) :
    Calls Try.prog 47 #[.pointer (some ⟨h, 0, none⟩), .int .u32 n, .int .u32 x] w fun e w' => e = .returned (.tuple #[.int .u32 a, .bool true]) ∧ Run B h w0 w' s' := by
  obtain ⟨v, hp, hb, hB⟩ := r
  exact (malloc_to B h v s s' n x a w hp hB ok hn2 hx hr).mono (fun e w' hh => ⟨hh.1, Run.next hp hb hB hh.2⟩)
theorem Run.refuse {B h : Nat} {w0 w : World} {s : Hs} {n x : Nat} (r : Run B h w0 w s) (ok : OkS s) (hn2 : n < 4294967296) (hx : x < 4294967296) (hr : mallocR s n x = none) :
    Calls Try.prog 47 #[.pointer (some ⟨h, 0, none⟩), .int .u32 n, .int .u32 x] w fun e w' => e = .returned (.tuple #[.int .u32 0, .bool false]) ∧ Run B h w0 w' s := by
  obtain ⟨v, hp, hb, hB⟩ := r
  exact (malloc_no B h v s n x w hp hB ok hn2 hx hr).mono (fun e w' hh => ⟨hh.1, Run.next hp hb hB hh.2⟩)
theorem Run.any {B h : Nat} {w0 w : World} {s : Hs} {n x : Nat} (r : Run B h w0 w s) (ok : OkS s) (hn2 : n < 4294967296) (hx : x < 4294967296) :
    Calls Try.prog 47 #[.pointer (some ⟨h, 0, none⟩), .int .u32 n, .int .u32 x] w fun e w' => e = .returned (.tuple #[.int .u32 (mallocA s n x : Nat), .bool (mallocB s n x)]) ∧ Run B h w0 w' (mallocS s n x) := by
  obtain ⟨v, hp, hb, hB⟩ := r
  exact (malloc_any B h v s n x w hp hB ok hn2 hx).mono (fun e w' hh => ⟨hh.1, Run.next hp hb hB hh.2⟩)
theorem Run.free {B h : Nat} {w0 w : World} {s : Hs} (x : Nat) (r : Run B h w0 w s) (ok : OkS s) :
    Calls Try.prog 49 #[.pointer (some ⟨h, 0, none⟩), .int .u32 x] w fun e w' => e = .returned (.int .i64 (freeE s x : Nat)) ∧ Run B h w0 w' (freeS s x) := by
  obtain ⟨v, hp, hb, hB⟩ := r
  exact (free_any B h v s x w hp ok.len).mono (fun e w' hh => ⟨hh.1, Run.next hp hb hB hh.2⟩)
theorem Run.start {B h : Nat} {w0 w : World} {s : Hs} (r : Run B h w0 w s) : Calls Try.prog 41 #[.pointer (some ⟨h, 0, none⟩)] w fun e w' => e = .returned (.int .u32 s.start) ∧ w' = w := by
  obtain ⟨v, hp, hb, hB⟩ := r
  exact start_any B h v s w hp
theorem Run.end {B h : Nat} {w0 w : World} {s : Hs} (r : Run B h w0 w s) : Calls Try.prog 48 #[.pointer (some ⟨h, 0, none⟩)] w fun e w' => e = .returned (.int .u32 s.en) ∧ w' = w := by
  obtain ⟨v, hp, hb, hB⟩ := r
  exact end_any B h v s w hp
theorem Run.active {B h : Nat} {w0 w : World} {s : Hs} (r : Run B h w0 w s) : Calls Try.prog 43 #[.pointer (some ⟨h, 0, none⟩)] w fun e w' => e = .returned (.bool (decide (0 < s.bs.length))) ∧ w' = w := by
  obtain ⟨v, hp, hb, hB⟩ := r
  exact active_any B h v s w hp
theorem Run.later {B h : Nat} {w0 w w' : World} {s : Hs} (r : Run B h w0 w s) (hb' : Below w.heap.size w w') : Run B h w0 w' s := by
  obtain ⟨v, hp, hb, hB⟩ := r
  exact ⟨v, hp.later hb', hb.trans (hb'.mono hB), Nat.le_trans hB hb'.size⟩
theorem Run.new (m : Nat) (w0 w : World) (B : Nat) (hb : Below B w0 w) (hB : B ≤ w.heap.size) : Calls Try.prog 38 #[.int .u32 m] w fun e w' => e = .returned (.pointer (some ⟨w.heap.size, 0, none⟩)) ∧ Run B w.heap.size w0 w' ⟨m, 0, 0, []⟩ :=
  (new_any m w).mono (fun e w' hh => ⟨hh.1, _, ⟨hB, hh.2.1.2.1, Joins.ownsRow_le hh.2.1.2.2 hB⟩, hb.trans (hh.2.2.mono hB), Nat.le_trans hB hh.2.2.size⟩)
theorem Run.load {B h : Nat} {w0 w : World} {s : Hs} (x y : Nat) (ao : Option Addr) (n c : Nat) (bs : List Bk) (r : Run B h w0 w s) (hk : Bks w ao n c bs) (hf : FitB bs) (hx : x < 4294967296) (hy : y < 4294967296) :
    Calls Try.prog 71 #[.pointer (some ⟨h, 0, none⟩), .int .u32 x, .int .u32 y, .slice ao n c] w fun e w' => e = .returned (.int .i64 (loadE s x y bs : Nat)) ∧ Run B h w0 w' (loadS s x y bs) := by
  obtain ⟨v, hp, hb, hB⟩ := r
  exact (load_any B h v s x y ao n c bs w hp hB hk hf hx hy).mono (fun e w' hh => ⟨hh.1, Run.next hp hb hB hh.2⟩)
end Go.Proofs.Ytmebjbnglndfcaa
