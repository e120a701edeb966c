/- The document's heap as it lies in memory, beside the program's; where a block finds its place, told by the document's words. -/
import Derived.Test.YthdbaiddmelhgaaE8x
namespace Go.Proofs.Ythdbaiddmelhgaa
open Go.RowKit
set_option maxHeartbeats 1000000
set_option maxRecDepth 100000
set_option linter.unusedVariables false

/-- the document's heap: its four fields, and the row of its blocks in the order in which they came -/
def DpAt (B : Nat) (w : World) (d : Nat) (u : Value) (t : Hs) : Prop :=
  B ≤ d ∧ w.heap[d]? = some (.cells #[.int .i64 t.most, .int .i64 t.start, .int .i64 t.en, u] 31 (0, 0)) ∧ w.ownsRow B 40 2 u t.bs.length (bksV t.bs)
theorem own_ne_dp {B : Nat} {w : World} {u : Value} {n d : Nat} {xs : List Value} {cs : Array Value} (ho : w.ownsRow B 40 2 u n xs) (hh : w.heap[d]? = some (.cells cs 31 (0, 0))) : u.ownBlock ≠ some d := by
  intro e
  rcases ho.2 with ⟨h1, _⟩ | ⟨g, cap, cur, h1, h2, h3, _⟩
  · rw [h1] at e; cases e
  · rw [h1] at e
    simp only [Value.ownBlock, Option.some.injEq] at e
    subst e
    rw [hh] at h3
    simp at h3
theorem DpAt.cells {B : Nat} {w : World} {d : Nat} {u : Value} {t : Hs} (hp : DpAt B w d u t) : w.cell? ⟨d, 0, none⟩ = some (.int .i64 t.most) ∧ w.cell? ⟨d, 1, none⟩ = some (.int .i64 t.start) ∧ w.cell? ⟨d, 2, none⟩ = some (.int .i64 t.en) ∧ w.cell? ⟨d, 3, none⟩ = some u ∧ (∀ j, w.frozen? ⟨d, j, none⟩ = false) := by
  have hh := hp.2.1
  refine ⟨by simp [World.cell?, hh], by simp [World.cell?, hh], by simp [World.cell?, hh], by simp [World.cell?, hh], fun j => by simp [World.frozen?, hh]⟩
theorem DpAt.later {B : Nat} {w w' : World} {d : Nat} {u : Value} {t : Hs} (hp : DpAt B w d u t) (hb : Below w.heap.size w w') : DpAt B w' d u t := by
  refine ⟨hp.1, by rw [hb.block d (Array.getElem?_eq_some_iff.1 hp.2.1).1]; exact hp.2.1, ?_⟩
  exact hp.2.2.kept (row := none) ⟨hb.os, hb.tape, hb.output, hb.size, fun k hk _ => hb.block k hk⟩ (by cases h : u.ownBlock <;> simp)
theorem DpAt.below {B : Nat} {w w' : World} {d : Nat} {u u' : Value} {t : Hs} (hp : DpAt B w d u t) (hB : B ≤ w.heap.size) (f : Fr w w' d u u') : Below B w w' :=
  ⟨f.os, f.tape, f.output, f.size, fun k hk => f.block k (by omega) (by have := hp.1; omega) (fun e => by have := (hp.2.2.lt k e).1; omega)⟩
/-- a row of blocks that a call leaves alone -/
theorem fr_row {B' : Nat} {w w' : World} {h : Nat} {v v' u : Value} {n : Nat} {xs : List Value} (f : Fr w w' h v v') (ho : w.ownsRow B' 40 2 u n xs) (hh : u.ownBlock ≠ some h) (hne : ∀ k, u.ownBlock = some k → v.ownBlock ≠ some k) : w'.ownsRow B' 40 2 u n xs := by
  refine ⟨ho.1, ?_⟩
  rcases ho.2 with hn | ⟨g, cap, cur, h1, h2, h3, h4⟩
  · exact .inl hn
  · refine .inr ⟨g, cap, cur, h1, h2, ?_, h4⟩
    have e : u.ownBlock = some g := by rw [h1]; rfl
    rw [f.block g (Array.getElem?_eq_some_iff.1 h3).1 (fun e2 => hh (by rw [e, e2])) (hne g e)]
    exact h3
def LeftD (B : Nat) (w w' : World) (d : Nat) (u : Value) (t : Hs) : Prop := ∃ u', DpAt B w' d u' t ∧ Fr w w' d u u'
theorem LeftD.same {B : Nat} {w w' : World} {d : Nat} {u : Value} {t : Hs} (hp : DpAt B w d u t) (hb : Below w.heap.size w w') : LeftD B w w' d u t := ⟨u, hp.later hb, Fr.same w w' d u hb⟩
/-- the program's heap and the document's, side by side -/
def RunD (B h d : Nat) (w0 w : World) (s t : Hs) : Prop := ∃ v u, HpAt B w h v s ∧ DpAt B w d u t ∧ (∀ k, v.ownBlock = some k → u.ownBlock ≠ some k) ∧ Below B w0 w ∧ B ≤ w.heap.size
theorem hp_ne_dp {B : Nat} {w : World} {h d : Nat} {v u : Value} {s t : Hs} (h1 : HpAt B w h v s) (h2 : DpAt B w d u t) : h ≠ d := by
  intro e
  subst e
  have := h1.2.1
  rw [h2.2.1] at this
  simp at this
theorem RunD.nextH {B h d : Nat} {w0 w w' : World} {v u : Value} {s t s' : Hs} (h1 : HpAt B w h v s) (h2 : DpAt B w d u t) (h4 : ∀ k, v.ownBlock = some k → u.ownBlock ≠ some k) (h5 : Below B w0 w) (h6 : B ≤ w.heap.size) (l : Left B w w' h v s') : RunD B h d w0 w' s' t := by
  obtain ⟨v', hp', f⟩ := l
  have hd : w'.heap[d]? = w.heap[d]? := f.block d (Array.getElem?_eq_some_iff.1 h2.2.1).1 (fun e => hp_ne_dp h1 h2 e.symm) (own_ne_dp h1.2.2 h2.2.1)
  refine ⟨v', u, hp', ⟨h2.1, by rw [hd]; exact h2.2.1, fr_row f h2.2.2 (own_ne_hp h2.2.2 h1.2.1) (fun k hk e => h4 k e hk)⟩, fun k hk e => ?_, h5.trans (f.below h1 h6), Nat.le_trans h6 f.size⟩
  rcases f.row k hk with h' | h'
  · exact h4 k h' e
  · have := (h2.2.2.lt k e).2; omega
theorem RunD.nextD {B h d : Nat} {w0 w w' : World} {v u : Value} {s t t' : Hs} (h1 : HpAt B w h v s) (h2 : DpAt B w d u t) (h4 : ∀ k, v.ownBlock = some k → u.ownBlock ≠ some k) (h5 : Below B w0 w) (h6 : B ≤ w.heap.size) (l : LeftD B w w' d u t') : RunD B h d w0 w' s t' := by
  obtain ⟨u', hp', f⟩ := l
  have hd : w'.heap[h]? = w.heap[h]? := f.block h (Array.getElem?_eq_some_iff.1 h1.2.1).1 (hp_ne_dp h1 h2) (own_ne_hp h2.2.2 h1.2.1)
  refine ⟨v, u', ⟨h1.1, by rw [hd]; exact h1.2.1, fr_row f h1.2.2 (own_ne_dp h1.2.2 h2.2.1) h4⟩, hp', fun k hk e => ?_, h5.trans (h2.below h6 f), Nat.le_trans h6 f.size⟩
  rcases f.row k e with h' | h'
  · exact h4 k hk h'
  · have := (h1.2.2.lt k hk).2; omega
theorem RunD.later {B h d : Nat} {w0 w w' : World} {s t : Hs} (r : RunD B h d w0 w s t) (hb : Below w.heap.size w w') : RunD B h d w0 w' s t := by
  obtain ⟨v, u, h1, h2, h4, h5, h6⟩ := r
  exact ⟨v, u, h1.later hb, h2.later hb, h4, h5.trans (hb.mono h6), Nat.le_trans h6 hb.size⟩
theorem RunD.drew {B h d : Nat} {w0 w : World} {s t : Hs} (r : RunD B h d w0 w s t) : RunD B h d w0 w.drew s t := r.later ((Below.refl _ _).drew)
theorem RunD.run {B h d : Nat} {w0 w : World} {s t : Hs} (r : RunD B h d w0 w s t) : Run B h w0 w s := by
  obtain ⟨v, u, h1, h2, h4, h5, h6⟩ := r
  exact ⟨v, h1, h5, h6⟩
/-- do n bytes from a place on touch no block? -/
def freeAt (bs : List Bk) (p n : Nat) : Bool := bs.all fun b => !(decide (p < b.a + b.l) && decide (b.a < p + n))
theorem freeAt_iff {bs : List Bk} {p n : Nat} : freeAt bs p n = true ↔ ∀ b ∈ bs, ¬ (p < b.a + b.l ∧ b.a < p + n) := by
  simp only [freeAt, List.all_eq_true]
  constructor
  · intro h b hb hc
    have := h b hb
    simp [hc.1, hc.2] at this
  · intro h b hb
    have := h b hb
    by_cases c1 : p < b.a + b.l
    · by_cases c2 : b.a < p + n
      · exact absurd ⟨c1, c2⟩ this
      · simp [c2]
    · simp [c1]
theorem freeAt_perm {bs ls : List Bk} (h : ls.Perm bs) (p n : Nat) : freeAt ls p n = freeAt bs p n := by
  have : freeAt ls p n = true ↔ freeAt bs p n = true := by
    rw [freeAt_iff, freeAt_iff]
    exact ⟨fun hh b hb => hh b (h.mem_iff.2 hb), fun hh b hb => hh b (h.mem_iff.1 hb)⟩
  cases h1 : freeAt ls p n <;> cases h2 : freeAt bs p n <;> simp_all
theorem chain_mem {e f : Nat} {bs : List Bk} (hc : Chain e f bs) : ∀ b ∈ bs, f ≤ b.a ∧ 0 < b.l ∧ b.a + b.l ≤ e := by
  induction bs generalizing f with
  | nil => intro b hb; cases hb
  | cons x xs ih =>
    intro b hb
    rcases List.mem_cons.1 hb with rfl | h
    · exact ⟨hc.2.1, hc.1, hc.2.2.le⟩
    · have := ih hc.2.2 b h
      have h2 := hc.2.1
      exact ⟨by omega, this.2⟩
/-- the place that is found touches no block -/
theorem place_free {e n : Nat} (hn : 0 < n) : ∀ {f : Nat} {bs : List Bk}, Chain e f bs → ∀ b ∈ bs, ¬ ((place n f bs).2 < b.a + b.l ∧ b.a < (place n f bs).2 + n)
  | f, [], _, b, hb => by cases hb
  | f, x :: xs, hc, b, hb => by
    unfold place
    split
    · rename_i h
      have h1 := hc.2.1
      rcases List.mem_cons.1 hb with rfl | hm
      · simp only; omega
      · have := (chain_mem hc.2.2 b hm).1; simp only; omega
    · rename_i h
      have hp := (place_end n e (x.a + x.l) xs hc.2.2).1
      rcases List.mem_cons.1 hb with rfl | hm
      · simp only; omega
      · exact place_free hn hc.2.2 b hm
theorem place_cand (n : Nat) : ∀ (f : Nat) (bs : List Bk), (place n f bs).2 = f ∨ ∃ b ∈ bs, (place n f bs).2 = b.a + b.l
  | f, [] => .inl rfl
  | f, x :: xs => by
    unfold place
    split
    · exact .inl rfl
    · rcases place_cand n (x.a + x.l) xs with h | ⟨b, hb, h⟩
      · exact .inr ⟨x, List.mem_cons_self, h⟩
      · exact .inr ⟨b, List.mem_cons_of_mem _ hb, h⟩
/-- no lesser place would have done -/
theorem place_least {e n : Nat} (hn : 0 < n) : ∀ {f : Nat} {bs : List Bk}, Chain e f bs → ∀ c, f ≤ c → (∀ b ∈ bs, ¬ (c < b.a + b.l ∧ b.a < c + n)) → (place n f bs).2 ≤ c
  | f, [], _, c, hc, _ => hc
  | f, x :: xs, hch, c, hc, hf => by
    unfold place
    split
    · exact hc
    · rename_i h
      have h0 := hf x List.mem_cons_self
      have h1 := hch.2.1
      have h2 := hch.1
      refine place_least hn hch.2.2 c ?_ (fun b hb => hf b (List.mem_cons_of_mem _ hb))
      omega
theorem dfree_any (B d : Nat) (u : Value) (t : Hs) (p n : Nat) (w : World) (hp : DpAt B w d u t) (hl : t.bs.length ≤ 4096) (hf : FitB t.bs) (h1 : p < 8589934592) (h2 : n < 4294967296) :
    Calls Try.prog 30 #[.pointer (some ⟨d, 0, none⟩), .int .i64 p, .int .i64 n] w fun e w' => e = .returned (.bool (freeAt t.bs p n)) ∧ Below w.heap.size w w' := by
  obtain ⟨ao, c, rfl⟩ := own_slice2 hp.2.2
  have h3 := hp.cells.2.2.2.1
  have hnc : t.bs.length ≤ c := (own_bks hp.2.2).2.1
  have HO := hidden hp.2.2
  have HF := hidden hf
  clear hp hf
  have hR1 : ∀ k (h : k < t.bs.length), p < t.bs[k].a + t.bs[k].l → t.bs[k].a < p + n → freeAt t.bs p n = false := fun k h q1 q2 => by
    cases hq : freeAt t.bs p n with
    | false => rfl
    | true => exact absurd ⟨q1, q2⟩ (freeAt_iff.1 hq _ (List.getElem_mem h))
  have hR2 : (∀ k (h : k < t.bs.length), ¬ (p < t.bs[k].a + t.bs[k].l ∧ t.bs[k].a < p + n)) → freeAt t.bs p n = true := fun h => freeAt_iff.2 (fun b hb => by
    obtain ⟨k, hk, rfl⟩ := List.getElem_of_mem hb
    exact h k hk)
  have HR1 := hidden hR1
  have HR2 := hidden hR2
  clear hR1 hR2
  generalize t.bs = bs at *
  generalize freeAt bs p n = R at *
  generalize hnn : bs.length = nb at hl h3 hnc HO
  have HN := hidden hnn
  clear hnn
  go_enter Try.func30, Try.ntmps30
  go_wp2
  go_loopw [7] (fun i wr => ∃ k : Nat, k ≤ nb ∧ i = .int .i64 k ∧ Below w.heap.size w wr ∧ Hid (∀ j (hj : j < k) (h : j < bs.length), ¬ (p < bs[j].a + bs[j].l ∧ bs[j].a < p + n))) (fun i _ => nb - (intOf i).toNat)
  case atStart => exact ⟨0, by omega, rfl, Below.refl _ _, hidden (fun j hj => by omega)⟩
  case round =>
    obtain ⟨k, hk, rfl, hb, HK⟩ := hrel
    have h3' := cellLater hb h3
    by_cases hlt : k < nb
    · obtain ⟨g, rfl, hcells⟩ := own_cells HO.out (by omega)
      have hkl : k < bs.length := by rw [HN.out]; exact hlt
      have ha := cellLater hb (hcells k hkl).1
      have hl' := cellLater hb (hcells k hkl).2
      have hfit := HF.out bs[k] (List.getElem_mem hkl)
      have hr1 := fun q1 q2 => HR1.out k hkl q1 q2
      have hkk : ∀ (hx : ¬ (p < bs[k].a + bs[k].l ∧ bs[k].a < p + n)), ∀ j (hj : j < k + 1) (h : j < bs.length), ¬ (p < bs[j].a + bs[j].l ∧ bs[j].a < p + n) := fun hx j hj h => by
        by_cases e : j = k
        · subst e; exact hx
        · exact HK.out j (by omega) h
      have HKK := hidden hkk
      have HR := hidden hr1
      clear hcells hkk hr1 HK HR1 HR2
      generalize bs[k] = b at *
      obtain ⟨a, l⟩ := b
      simp only at ha hl' hfit
      have d1 : (k : Int) < (nb : Int) := by omega
      by_cases q1 : p < a + l
      · have e1 : (p : Int) < (a : Int) + (l : Int) := by omega
        by_cases q2 : a < p + n
        · have e2 : (a : Int) < (p : Int) + (n : Int) := by omega
          have er := HR.out q1 q2
          subst er
          go_wp2_with fail
          go_quiet (fail)
          go_wp2
          go_ret
          exact ⟨rfl, hb.os, hb.tape, hb.output, hb.size, hb.block⟩
        · have e2 : ¬ (a : Int) < (p : Int) + (n : Int) := by omega
          have HX := hidden (HKK.out (fun h => q2 h.2))
          go_wp2_with fail
          go_quiet (fail)
          go_wp2
          go_roundw
          case rel => exact ⟨k + 1, by omega, int_eq (by omega), ⟨hb.os, hb.tape, hb.output, hb.size, hb.block⟩, HX⟩
          case measure => simp [intOf]; omega
      · have e1 : ¬ (p : Int) < (a : Int) + (l : Int) := by omega
        have HX := hidden (HKK.out (fun h => q1 h.1))
        go_wp2_with fail
        go_quiet (fail)
        go_wp2
        go_roundw
        case rel => exact ⟨k + 1, by omega, int_eq (by omega), ⟨hb.os, hb.tape, hb.output, hb.size, hb.block⟩, HX⟩
        case measure => simp [intOf]; omega
    · obtain rfl : k = nb := by omega
      have er := HR2.out (fun j hj => HK.out j (by rw [← HN.out]; exact hj) hj)
      subst er
      go_wp2
      go_ret
      exact ⟨rfl, hb⟩
end Go.Proofs.Ythdbaiddmelhgaa
