/- The document's Same of two lists that are alike; a heap beside a row of blocks, or beside another heap. -/
import Derived.Test.YthdbaiddmelhgaaE8t
namespace Go.Proofs.Ythdbaiddmelhgaa
open Go.RowKit
set_option maxHeartbeats 1000000
set_option maxRecDepth 100000
set_option linter.unusedVariables false

theorem same_eq (a1 a2 : Option Addr) (n c1 c2 : Nat) (bs : List Bk) (w : World) (h1 : Bks w a1 n c1 bs) (h2 : Bks w a2 n c2 bs) :
    Calls Try.prog 8 #[.slice a1 n c1, .slice a2 n c2] w fun e w' => e = .returned (.bool true) ∧ Below w.heap.size w w' := by
  have hl1 := h1.2.1
  have hl2 := h2.2.1
  have hm1 : c1 ≤ 9223372036854775807 := h1.2.2.1
  have HN := hidden h1.1
  have H1 := hidden h1
  have H2 := hidden h2
  clear h1 h2
  go_enter Try.func8, Try.ntmps8
  go_wp2
  go_loopw [5] (fun i wr => ∃ k : Nat, k ≤ n ∧ i = .int .i64 k ∧ Below w.heap.size w wr) (fun i _ => n - (intOf i).toNat)
  case atStart => exact ⟨0, by omega, rfl, Below.refl _ _⟩
  case round =>
    obtain ⟨k, hk, rfl, hb⟩ := hrel
    by_cases hlt : k < n
    · obtain ⟨g1, o1, rfl, q1⟩ := bks_cells H1.out (by omega)
      obtain ⟨g2, o2, rfl, q2⟩ := bks_cells H2.out (by omega)
      have hkl : k < bs.length := by rw [HN.out]; exact hlt
      have c1 := cellLater hb (q1 k hkl).1
      have c2 := cellLater hb (q1 k hkl).2
      have c3 := cellLater hb (q2 k hkl).1
      have c4 := cellLater hb (q2 k hkl).2
      clear q1 q2
      generalize bs[k] = b at *
      obtain ⟨a, l⟩ := b
      simp only at c1 c2 c3 c4
      have d1 : (k : Int) < (n : Int) := by omega
      go_wp2_with fail
      go_quiet (fail)
      go_wp2
      go_roundw
      case rel => exact ⟨k + 1, by omega, int_eq (by omega), ⟨hb.os, hb.tape, hb.output, hb.size, hb.block⟩⟩
      case measure => simp [intOf]; omega
    · obtain rfl : k = n := by omega
      go_wp2
      go_ret
      exact ⟨rfl, hb⟩
/-- a heap of the call's own beside a row of blocks of its own -/
def RunK (B h : Nat) (w0 w : World) (s : Hs) (u : Value) (xs : List Bk) : Prop := ∃ v, HpAt B w h v s ∧ w.ownsRow B 40 2 u xs.length (bksV xs) ∧ (∀ k, u.ownBlock = some k → v.ownBlock ≠ some k) ∧ Below B w0 w ∧ B ≤ w.heap.size
theorem RunK.run {B h : Nat} {w0 w : World} {s : Hs} {u : Value} {xs : List Bk} (r : RunK B h w0 w s u xs) : Run B h w0 w s := by
  obtain ⟨v, h1, h2, h3, h4, h5⟩ := r
  exact ⟨v, h1, h4, h5⟩
theorem RunK.next {B h : Nat} {w0 w w' : World} {v : Value} {s s' : Hs} {u : Value} {xs : List Bk} (hp : HpAt B w h v s) (ho : w.ownsRow B 40 2 u xs.length (bksV xs)) (hne : ∀ k, u.ownBlock = some k → v.ownBlock ≠ some k) (hb : Below B w0 w) (hB : B ≤ w.heap.size) (l : Left B w w' h v s') : RunK B h w0 w' s' u xs := by
  obtain ⟨v', hp', f⟩ := l
  refine ⟨v', hp', f.own hp ho hne, fun k hk e => ?_, hb.trans (f.below hp hB), Nat.le_trans hB f.size⟩
  rcases f.row k e with h' | h'
  · exact hne k hk h'
  · have := (ho.lt k hk).2; omega
theorem RunK.later {B h : Nat} {w0 w w' : World} {s : Hs} {u : Value} {xs : List Bk} (r : RunK B h w0 w s u xs) (hb' : Below w.heap.size w w') : RunK B h w0 w' s u xs := by
  obtain ⟨v, hp, ho, hne, hb, hB⟩ := r
  refine ⟨v, hp.later hb', ?_, hne, hb.trans (hb'.mono hB), Nat.le_trans hB hb'.size⟩
  exact ho.kept (row := none) ⟨hb'.os, hb'.tape, hb'.output, hb'.size, fun k hk _ => hb'.block k hk⟩ (by cases h : u.ownBlock <;> simp)
theorem RunK.bks {B h : Nat} {w0 w : World} {s : Hs} {ao : Option Addr} {n c : Nat} {xs : List Bk} (r : RunK B h w0 w s (.slice ao n c) xs) (hn : xs.length = n) : Bks w ao n c xs := by
  obtain ⟨v, hp, ho, hne, hb, hB⟩ := r
  rw [hn] at ho
  exact own_bks ho
theorem Run.keep {B h : Nat} {w0 w : World} {s : Hs} (r : Run B h w0 w s) (ok : OkS s) : Calls Try.prog 9 #[.pointer (some ⟨h, 0, none⟩)] w fun e w' => ∃ ao c, e = .returned (.slice ao s.bs.length c) ∧ RunK B h w0 w' s (.slice ao s.bs.length c) s.bs := by
  obtain ⟨v, hp, hb, hB⟩ := r
  refine (blocks_any B h v s w hp ok.len).mono ?_
  rintro e w' ⟨ao, c, rfl, ho, hb'⟩
  refine ⟨ao, c, rfl, v, hp.later hb', Joins.ownsRow_le ho hB, fun k hk e => ?_, hb.trans (hb'.mono hB), Nat.le_trans hB hb'.size⟩
  have := (ho.lt k hk).1
  have := (hp.2.2.lt k e).2
  omega
theorem RunK.again {B h : Nat} {w0 w : World} {s : Hs} {u : Value} {xs : List Bk} (r : RunK B h w0 w s u xs) (ok : OkS s) : Calls Try.prog 9 #[.pointer (some ⟨h, 0, none⟩)] w fun e w' => ∃ ao c, e = .returned (.slice ao s.bs.length c) ∧ Hid (Bks w' ao s.bs.length c s.bs) ∧ RunK B h w0 w' s u xs := by
  have r0 := r
  obtain ⟨v, hp, ho, hne, hb, hB⟩ := r
  refine (blocks_any B h v s w hp ok.len).mono ?_
  rintro e w' ⟨ao, c, rfl, ho, hb'⟩
  exact ⟨ao, c, rfl, own_bks ho, r0.later hb'⟩
theorem RunK.malloc {B h : Nat} {w0 w : World} {s s' : Hs} {u : Value} {xs : List Bk} {n x a : Nat} (r : RunK B h w0 w s u xs) (ok : OkS s) (hn2 : n < 4294967296) (hx : x < 4294967296) (hr : mallocR s n x = some (a, s')) :
    Calls Try.prog 14 #[.pointer (some ⟨h, 0, none⟩), .int .u32 n, .int .u32 x] w fun e w' => e = .returned (.tuple #[.int .u32 a, .bool true]) ∧ RunK B h w0 w' s' u xs := by
  obtain ⟨v, hp, ho, hne, hb, hB⟩ := r
  exact (malloc_to B h v s s' n x a w hp hB ok hn2 hx hr).mono (fun e w' hh => ⟨hh.1, RunK.next hp ho hne hb hB hh.2⟩)
theorem RunK.refuse {B h : Nat} {w0 w : World} {s : Hs} {u : Value} {xs : List Bk} {n x : Nat} (r : RunK B h w0 w s u xs) (ok : OkS s) (hn2 : n < 4294967296) (hx : x < 4294967296) (hr : mallocR s n x = none) :
    Calls Try.prog 14 #[.pointer (some ⟨h, 0, none⟩), .int .u32 n, .int .u32 x] w fun e w' => e = .returned (.tuple #[.int .u32 0, .bool false]) ∧ RunK B h w0 w' s u xs := by
  obtain ⟨v, hp, ho, hne, hb, hB⟩ := r
  exact (malloc_no B h v s n x w hp hB ok hn2 hx hr).mono (fun e w' hh => ⟨hh.1, RunK.next hp ho hne hb hB hh.2⟩)
theorem RunK.free {B h : Nat} {w0 w : World} {s : Hs} {u : Value} {xs : List Bk} (x : Nat) (r : RunK B h w0 w s u xs) (ok : OkS s) :
    Calls Try.prog 15 #[.pointer (some ⟨h, 0, none⟩), .int .u32 x] w fun e w' => e = .returned (.int .i64 (freeE s x : Nat)) ∧ RunK B h w0 w' (freeS s x) u xs := by
  obtain ⟨v, hp, ho, hne, hb, hB⟩ := r
  exact (free_any B h v s x w hp ok.len).mono (fun e w' hh => ⟨hh.1, RunK.next hp ho hne hb hB hh.2⟩)
theorem chain_ge {e : Nat} : ∀ {f : Nat} {bs : List Bk}, Chain e f bs → ∀ i (h : i < bs.length), f ≤ bs[i].a
  | f, [], _, i, h => by simp at h
  | f, b :: bs, hc, 0, h => hc.2.1
  | f, b :: bs, hc, i + 1, h => by
    have hi : i < bs.length := by simpa using h
    have := chain_ge hc.2.2 i hi
    have h1 := hc.2.1
    show f ≤ bs[i].a
    omega
theorem chain_lt {e : Nat} : ∀ {f : Nat} {bs : List Bk}, Chain e f bs → ∀ i j (hij : i < j) (h : j < bs.length), (bs[i]'(by omega)).a < bs[j].a
  | f, [], _, i, j, hij, h => by simp at h
  | f, b :: bs, hc, 0, j + 1, hij, h => by
    have hi : j < bs.length := by simpa using h
    have := chain_ge hc.2.2 j hi
    have h1 := hc.1
    show b.a < bs[j].a
    omega
  | f, b :: bs, hc, i + 1, j + 1, hij, h => chain_lt hc.2.2 i j (by omega) (by simpa using h)
/-- in a chain the block at place i is found by its address -/
theorem idxB_self {e f : Nat} {bs : List Bk} (hc : Chain e f bs) (i : Nat) (h : i < bs.length) : idxB bs[i].a bs = i :=
  idxB_at _ bs i h (fun j hj => Nat.ne_of_lt (chain_lt hc j i hj h)) rfl
theorem back_free {s s1 : Hs} {n x a : Nat} (ok : OkS s) (hr : mallocR s n x = some (a, s1)) : freeE s1 a = 0 ∧ (freeS s1 a).bs = s.bs := by
  have ok1 := ok_malloc_to ok hr
  have hb : s1.bs = insB s n x ∧ a = (place n (stR s x) s.bs).2 := by
    unfold mallocR at hr
    split at hr
    · cases hr
    · split at hr
      · cases hr
      · split at hr
        · cases hr; exact ⟨rfl, rfl⟩
        · split at hr
          · cases hr
          · cases hr; exact ⟨rfl, rfl⟩
  obtain ⟨hb1, ha⟩ := hb
  have hpl := place_le n (stR s x) s.bs
  have hlen := insB_len s n x
  generalize hi : (place n (stR s x) s.bs).1 = i at *
  have hbs : s1.bs = s.bs.take i ++ ⟨a, n⟩ :: s.bs.drop i := by rw [hb1, ha]; unfold insB; rw [hi]
  have hch := (ok1.some (by rw [hb1, hlen]; omega)).2.2.2.2
  have hil : i < s1.bs.length := by rw [hb1, hlen]; omega
  have hat : s1.bs[i] = ⟨a, n⟩ := by
    have : s1.bs[i]? = some ⟨a, n⟩ := by rw [hbs, List.getElem?_append_right (by simp; omega)]; simp [Nat.min_eq_left hpl]
    rw [List.getElem?_eq_getElem hil] at this
    exact Option.some.inj this
  have hid := idxB_self hch i hil
  rw [hat] at hid
  simp only at hid
  have hne : ¬ idxB a s1.bs = s1.bs.length := by rw [hid]; omega
  have hdel : s1.bs.take i ++ s1.bs.drop (i + 1) = s.bs := by
    have e1 : (s.bs.take i).length = i := by rw [List.length_take]; omega
    rw [hbs, List.take_append_of_le_length (by omega), List.take_of_length_le (by omega), List.drop_append]
    rw [List.drop_of_length_le (by omega), e1, show i + 1 - i = 1 by omega]
    simp
  constructor
  · unfold freeE; rw [if_neg hne]
  · unfold freeS; rw [if_neg hne, hid]
    split <;> exact hdel
theorem back_last {s : Hs} {bs : List Bk} {k : Nat} (ok : OkS s) (hb : s.bs = bs.take (k + 1)) (hk : k < bs.length) : freeE s bs[k].a = 0 ∧ (freeS s bs[k].a).bs = bs.take k := by
  have hl : s.bs.length = k + 1 := by rw [hb, List.length_take]; omega
  have hch := (ok.some (by omega)).2.2.2.2
  have hat : s.bs[k]'(by omega) = bs[k] := by
    have : s.bs[k]? = some bs[k] := by rw [hb, List.getElem?_take, if_pos (by omega), List.getElem?_eq_getElem hk]
    rw [List.getElem?_eq_getElem (by omega)] at this
    exact Option.some.inj this
  have hid := idxB_self hch k (by omega)
  rw [hat] at hid
  have hne : ¬ idxB bs[k].a s.bs = s.bs.length := by rw [hid]; omega
  have hdel : s.bs.take k ++ s.bs.drop (k + 1) = bs.take k := by
    rw [hb, List.take_take, List.drop_of_length_le (by rw [List.length_take]; omega), List.append_nil]
    congr 1; omega
  constructor
  · unfold freeE; rw [if_neg hne]
  · unfold freeS; rw [if_neg hne, hid]
    split <;> exact hdel
end Go.Proofs.Ythdbaiddmelhgaa
