/- Layer 14: the program's tree and the document's, each some calls on. -/
import Derived.Test.YtilfgbcbodjegaaQ14g
import Derived.Test.YtilfgbcbodjegaaI14e
import Derived.Test.YtilfgbcbodjegaaP14h
import Derived.Test.YtilfgbcbodjegaaP14w
namespace Go.Proofs.Ytilfgbcbodjegaa
open Go.RowKit
set_option maxHeartbeats 1000000
set_option maxRecDepth 100000
set_option linter.unusedVariables false

def Kept (w w' : World) (gs : List Nat) : Prop := ∀ g ∈ gs, w'.heap[g]? = w.heap[g]?
/-- the program's tree is at s, the document's at t; the blocks gs are no part of either -/
def Tw (B m d : Nat) (w0 w : World) (s t : Ps) (gs : List Nat) : Prop := ∃ v u, PAt B w m v s ∧ QAt B w d u t ∧ (∀ k, TP m v k → ¬ TP d u k) ∧ Below B w0 w ∧ B ≤ w.heap.size ∧ ∀ g ∈ gs, g < w.heap.size ∧ ¬ TP m v g ∧ ¬ TP d u g
theorem Tw.nextP {B m d : Nat} {w0 w w' : World} {v v' u : Value} {s t s' : Ps} {gs : List Nat} (h1 : PAt B w m v s) (h2 : QAt B w d u t) (h4 : ∀ k, TP m v k → ¬ TP d u k) (h5 : Below B w0 w) (h6 : B ≤ w.heap.size) (hg : ∀ g ∈ gs, g < w.heap.size ∧ ¬ TP m v g ∧ ¬ TP d u g) (h' : PAt B w' m v' s') (f : Fm w w' (TP m v) (TP m v')) : Tw B m d w0 w' s' t gs ∧ Kept w w' gs := by
  refine ⟨⟨v', u, h', ⟨h2.base, by rw [f.block d h2.lt (fun e => h4 d e (.inl rfl))]; exact h2.box, own_fm f h2.row (fun k e e' => h4 k e' (.inr e))⟩, fun k hk e => ?_, h5.trans (f.below h6 (fun k e => (h1.low k e).1)), Nat.le_trans h6 f.size, fun g hm => ?_⟩, fun g hm => f.block g (hg g hm).1 (hg g hm).2.1⟩
  · rcases f.row k hk with h' | h'
    · exact h4 k h' e
    · have := (h2.low k e).2; omega
  · obtain ⟨g1, g2, g3⟩ := hg g hm
    refine ⟨Nat.lt_of_lt_of_le g1 f.size, fun e => ?_, g3⟩
    rcases f.row g e with h' | h'
    · exact g2 h'
    · omega
theorem Tw.nextQ {B m d : Nat} {w0 w w' : World} {v u u' : Value} {s t t' : Ps} {gs : List Nat} (h1 : PAt B w m v s) (h2 : QAt B w d u t) (h4 : ∀ k, TP m v k → ¬ TP d u k) (h5 : Below B w0 w) (h6 : B ≤ w.heap.size) (hg : ∀ g ∈ gs, g < w.heap.size ∧ ¬ TP m v g ∧ ¬ TP d u g) (h' : QAt B w' d u' t') (f : Fm w w' (TP d u) (TP d u')) : Tw B m d w0 w' s t' gs ∧ Kept w w' gs := by
  refine ⟨⟨v, u', ⟨h1.base, by rw [f.block m h1.lt (fun e => h4 m (.inl rfl) e)]; exact h1.box, own_fm f h1.row (fun k e e' => h4 k (.inr e) e')⟩, h', fun k hk e => ?_, h5.trans (f.below h6 (fun k e => (h2.low k e).1)), Nat.le_trans h6 f.size, fun g hm => ?_⟩, fun g hm => f.block g (hg g hm).1 (hg g hm).2.2⟩
  · rcases f.row k e with h' | h'
    · exact h4 k hk h'
    · have := (h1.low k hk).2; omega
  · obtain ⟨g1, g2, g3⟩ := hg g hm
    refine ⟨Nat.lt_of_lt_of_le g1 f.size, g2, fun e => ?_⟩
    rcases f.row g e with h' | h'
    · exact g3 h'
    · omega
theorem Tw.later {B m d : Nat} {w0 w w' : World} {s t : Ps} {gs : List Nat} (r : Tw B m d w0 w s t gs) (hb : Below w.heap.size w w') : Tw B m d w0 w' s t gs ∧ Kept w w' gs := by
  obtain ⟨v, u, h1, h2, h4, h5, h6, hg⟩ := r
  exact ⟨⟨v, u, h1.later hb, h2.later hb, h4, h5.trans (hb.mono h6), Nat.le_trans h6 hb.size, fun g hm => ⟨Nat.lt_of_lt_of_le (hg g hm).1 hb.size, (hg g hm).2⟩⟩, fun g hm => hb.block g (hg g hm).1⟩
/-- a block that came anew is no part of either -/
theorem Tw.fresh {B m d : Nat} {w0 w w' : World} {s t : Ps} {gs : List Nat} (r : Tw B m d w0 w s t gs) (hb : Below w.heap.size w w') (g : Nat) (hg1 : w.heap.size ≤ g) (hg2 : g < w'.heap.size) : Tw B m d w0 w' s t (g :: gs) := by
  obtain ⟨v, u, h1, h2, h4, h5, h6, hg⟩ := r
  refine ⟨v, u, h1.later hb, h2.later hb, h4, h5.trans (hb.mono h6), Nat.le_trans h6 hb.size, fun k hm => ?_⟩
  rcases List.mem_cons.1 hm with rfl | hm
  · exact ⟨hg2, fun e => by have := (h1.low _ e).2; omega, fun e => by have := (h2.low _ e).2; omega⟩
  · exact ⟨Nat.lt_of_lt_of_le (hg k hm).1 hb.size, (hg k hm).2⟩
theorem Tw.less {B m d : Nat} {w0 w : World} {s t : Ps} {gs gs' : List Nat} (r : Tw B m d w0 w s t gs) (hs : ∀ g ∈ gs', g ∈ gs) : Tw B m d w0 w s t gs' := by
  obtain ⟨v, u, h1, h2, h4, h5, h6, hg⟩ := r
  exact ⟨v, u, h1, h2, h4, h5, h6, fun g hm => hg g (hs g hm)⟩
/-- a row of numbers is no part of either -/
theorem Tw.row {B m d B2 n g c : Nat} {w0 w : World} {s t : Ps} {gs : List Nat} {xs : List Value} (r : Tw B m d w0 w s t gs) (h : w.ownsRow B2 3 1 (.slice (some ⟨g, 0, none⟩) n c) n xs) : Tw B m d w0 w s t (g :: gs) := by
  obtain ⟨v, u, h1, h2, h4, h5, h6, hg⟩ := r
  refine ⟨v, u, h1, h2, h4, h5, h6, fun k hm => ?_⟩
  rcases List.mem_cons.1 hm with rfl | hm
  · refine ⟨(h.lt k rfl).2, ?_, ?_⟩
    · rintro (e | e)
      · exact own_neE h h1.box (by decide) (by rw [e]; rfl)
      · exact own_two h h1.row (by decide) k rfl e
    · rintro (e | e)
      · exact own_neE h h2.box (by decide) (by rw [e]; rfl)
      · exact own_two h h2.row (by decide) k rfl e
  · exact hg k hm
theorem own_kept {B2 E sz n : Nat} {w w' : World} {v : Value} {xs : List Value} {gs : List Nat} (h : w.ownsRow B2 E sz v n xs) (k : Kept w w' gs) (hm : ∀ g, v.ownBlock = some g → g ∈ gs) : w'.ownsRow B2 E sz v n xs := by
  refine ⟨h.1, ?_⟩
  rcases h.2 with h1 | ⟨g, cap, cur, h1, h2, h3, h4⟩
  · exact .inl h1
  · exact .inr ⟨g, cap, cur, h1, h2, by rw [k g (hm g (by rw [h1]; rfl))]; exact h3, h4⟩
/-- Open -/
def opN (s : Ps) (split mt sz kind : Int) : Ps := if mayE s split mt kind ≠ 0 then s else if split = 0 then openS s 0 mt sz kind else opnS s split mt sz kind
def opX (s : Ps) (split mt kind : Int) : Int := if mayE s split mt kind ≠ 0 then 0 else s.last + 1
theorem may_root {s : Ps} (ho : Iv s) {split mt kind : Int} (hE : mayE s split mt kind = 0) : (1 ≤ kind ∧ kind ≤ 3) ∧ (split = 0 → s.L.length = 0) ∧ (split ≠ 0 → hasW s.L split ∧ mtdB mt = true ∧ s.L.length ≤ 62) := by
  unfold mayE at hE
  by_cases hk : kind = 1 ∨ kind = 2 ∨ kind = 3
  · rw [if_neg (fun q => q hk)] at hE
    refine ⟨by omega, fun h0 => ?_, fun h0 => ?_⟩
    · rw [if_pos h0] at hE
      by_cases r0 : s.root = 0
      · exact ho.rt0.1 r0
      · rw [if_neg r0] at hE; omega
    · rw [if_neg h0] at hE
      by_cases q1 : hasB s.L split = false
      · rw [if_pos q1] at hE; omega
      · rw [if_neg q1] at hE
        by_cases q2 : mtdB mt = false
        · rw [if_pos q2] at hE; omega
        · rw [if_neg q2] at hE
          by_cases q3 : 62 < s.L.length
          · rw [if_pos q3] at hE; omega
          · exact ⟨hasB_iff.1 (by simpa using q1), by simpa using q2, by omega⟩
  · rw [if_pos hk] at hE; omega
theorem iv_opN {s : Ps} (ho : Iv s) (hl : s.last ≤ 80000) (split mt sz kind : Int) (hs : 0 ≤ sz ∧ sz ≤ 4294967295) : Iv (opN s split mt sz kind) ∧ (opN s split mt sz kind).last ≤ s.last + 2 := by
  unfold opN
  by_cases hE : mayE s split mt kind = 0
  · rw [if_neg (fun q => q hE)]
    obtain ⟨h1, h2, h3⟩ := may_root ho hE
    by_cases h0 : split = 0
    · rw [if_pos h0]
      refine ⟨iv_root ho (h2 h0) kind mt sz h1 (by omega), ?_⟩
      unfold openS addS
      rw [if_pos rfl]
      show s.last + 1 ≤ s.last + 2
      omega
    · rw [if_neg h0]
      obtain ⟨q1, q2, q3⟩ := h3 h0
      exact ⟨iv_open ho split mt sz kind q1 q2 h1 hs q3 (by omega), by show s.last + 2 ≤ _; omega⟩
  · rw [if_pos hE]
    exact ⟨ho, by omega⟩
theorem Tw.kOpen {B m d : Nat} {w0 w : World} {s t : Ps} {gs : List Nat} (r : Tw B m d w0 w s t gs) (ho : Iv s) (hl : s.last ≤ 80000) (split mt sz kind : Int) (hm0 : -9223372036854775808 ≤ mt) (hm1 : mt ≤ 9223372036854775807) :
    Calls Try.prog 19 #[.pointer (some ⟨m, 0, none⟩), .int .i64 split, .int .i64 mt, .int .u32 sz, .int .i64 kind] w fun e w' => e = .returned (.tuple #[.int .i64 (opX s split mt kind), .int .i64 (mayE s split mt kind)]) ∧ Hid (Tw B m d w0 w' (opN s split mt sz kind) t gs ∧ Kept w w' gs) := by
  obtain ⟨v, u, h1, h2, h4, h5, h6, hg⟩ := id r
  unfold opX opN
  by_cases hE : mayE s split mt kind = 0
  · rw [if_neg (fun q => q hE), if_neg (fun q => q hE), hE]
    obtain ⟨q1, q2, q3⟩ := may_root ho hE
    by_cases h0 : split = 0
    · subst h0
      rw [if_pos rfl]
      exact (open_root h1 ho.toOkL h6 mt sz kind hm0 hm1 hE).mono (fun e w' hh => ⟨hh.1, hidden (by
        obtain ⟨v', a1, a2⟩ := hh.2
        exact Tw.nextP h1 h2 h4 h5 h6 hg a1 a2)⟩)
    · rw [if_neg h0]
      exact (open_split h1 ho.toOkL ho.parOk h6 (by omega) split mt sz kind h0 hm0 hm1 hE).mono (fun e w' hh => ⟨hh.1, hidden (by
        obtain ⟨v', a1, a2⟩ := hh.2
        rw [open_eq ho split mt sz kind (q3 h0).1] at a1
        exact Tw.nextP h1 h2 h4 h5 h6 hg a1 a2)⟩)
  · rw [if_pos hE, if_pos hE]
    exact (open_bad h1 ho.toOkL.toOkP split mt sz kind hm0 hm1 hE).mono (fun e w' hh => ⟨hh.1, hidden (r.later hh.2)⟩)
theorem Tw.dOpen {B m d : Nat} {w0 w : World} {s t : Ps} {gs : List Nat} (r : Tw B m d w0 w s t gs) (ho : Iv t) (hl : t.last ≤ 80000) (split mt sz kind : Int) :
    Calls Try.prog 57 #[.pointer (some ⟨d, 0, none⟩), .int .i64 split, .int .i64 mt, .int .u32 sz, .int .i64 kind] w fun e w' => e = .returned (.tuple #[.int .i64 (opX t split mt kind), .int .i64 (mayE t split mt kind)]) ∧ Hid (Tw B m d w0 w' s (opN t split mt sz kind) gs ∧ Kept w w' gs) := by
  obtain ⟨v, u, h1, h2, h4, h5, h6, hg⟩ := id r
  have hmd : mayD t split mt kind = mayE t split mt kind := mayD_mayE t split mt kind ho.rt0
  unfold opX opN
  by_cases hE : mayE t split mt kind = 0
  · rw [if_neg (fun q => q hE), if_neg (fun q => q hE), hE]
    obtain ⟨q1, q2, q3⟩ := may_root ho hE
    by_cases h0 : split = 0
    · subst h0
      rw [if_pos rfl]
      exact (dopen_root h2 h6 ⟨ho.l0, by omega⟩ mt sz kind (by rw [hmd]; exact hE)).mono (fun e w' hh => ⟨hh.1, hidden (by
        obtain ⟨v', a1, a2⟩ := hh.2
        exact Tw.nextQ h1 h2 h4 h5 h6 hg a1 a2)⟩)
    · rw [if_neg h0]
      exact (dopen_split h2 ho h6 (by omega) split mt sz kind h0 hE).mono (fun e w' hh => ⟨hh.1, hidden (by
        obtain ⟨v', a1, a2⟩ := hh.2
        exact Tw.nextQ h1 h2 h4 h5 h6 hg a1 a2)⟩)
  · rw [if_pos hE, if_pos hE, ← hmd]
    exact (dopen_bad h2 (by have := ho.f63; omega) split mt sz kind (by rw [hmd]; exact hE)).mono (fun e w' hh => ⟨hh.1, hidden (r.later (by rw [hh.2]; exact Below.refl _ _))⟩)
/-- Close -/
def clN (s : Ps) (x : Int) : Ps := if hasB s.L x = true then clsS s x else s
def clZ (s : Ps) (x : Int) : List Int := if hasB s.L x = true then numsF (gnB s x) s.L else []
def clE (s : Ps) (x : Int) : Int := if hasB s.L x = true then 0 else 5
theorem iv_clN {s : Ps} (ho : Iv s) (x : Int) : Iv (clN s x) ∧ (clN s x).last ≤ s.last + 2 := by
  unfold clN
  by_cases hb : hasB s.L x = true
  · rw [if_pos hb]
    have hx := hasB_iff.1 hb
    refine ⟨?_, by show s.last ≤ _; omega⟩
    by_cases h0 : (ofW s.L x).p = 0
    · exact (iv_cls_root ho hx h0).1
    · exact iv_cls_kid ho hx h0
  · rw [if_neg hb]
    exact ⟨ho, by omega⟩
theorem clZ_len {s : Ps} (ho : Iv s) (x : Int) : (clZ s x).length ≤ 64 := by
  unfold clZ
  split
  · unfold numsF
    rw [List.length_map]
    exact Nat.le_trans (List.length_filter_le _ _) ho.f63
  · simp
theorem Tw.kClose {B m d : Nat} {w0 w : World} {s t : Ps} {gs : List Nat} (r : Tw B m d w0 w s t gs) (ho : Iv s) (x : Int) :
    Calls Try.prog 23 #[.pointer (some ⟨m, 0, none⟩), .int .i64 x] w fun e w' => ∃ a c, e = .returned (.tuple #[.slice a (clZ s x).length c, .int .i64 (clE s x)]) ∧ Hid (w'.ownsRow w.heap.size 3 1 (.slice a (clZ s x).length c) (clZ s x).length (intsV (clZ s x)) ∧ Tw B m d w0 w' (clN s x) t gs ∧ Kept w w' gs) := by
  obtain ⟨v, u, h1, h2, h4, h5, h6, hg⟩ := id r
  unfold clN clZ clE
  by_cases hb : hasB s.L x = true
  · rw [if_pos hb, if_pos hb, if_pos hb]
    have hx := hasB_iff.1 hb
    by_cases h0 : (ofW s.L x).p = 0
    · obtain ⟨e1, e2⟩ := drop_root ho hx h0
      refine (close_root h1 ho.toOkL.toOkP h6 x hx 64 ho.ends_p h0).mono ?_
      rintro e w' ⟨gg, cc, rfl, HR⟩
      obtain ⟨hr, v', a1, a2⟩ := HR.out
      rw [e1] at a1
      have hl : (goneL s 64 x).length = (numsF (gnB s x) s.L).length := by rw [← e2, sortI_len]
      rw [e2, hl] at hr
      rw [hl]
      obtain ⟨b1, b2⟩ := Tw.nextP h1 h2 h4 h5 h6 hg a1 a2
      exact ⟨_, cc, rfl, hidden ⟨hr, b1, b2⟩⟩
    · obtain ⟨e1, e2⟩ := drop_kid ho hx h0
      have K := ho.kin hx h0
      refine (close_kid h1 ho.toOkL.toOkP h6 x hx 64 ho.ends_p h0 K.hs (fun q => by
        have := ho.par _ K.hp q
        exact ⟨this.1, this.2.2⟩)).mono ?_
      rintro e w' ⟨gg, cc, rfl, HR⟩
      obtain ⟨hr, v', a1, a2⟩ := HR.out
      rw [e1] at a1
      have hl : (goneL s 64 x ++ [(ofW s.L x).p]).length = (numsF (gnB s x) s.L).length := by rw [← e2, sortI_len]
      rw [e2, hl] at hr
      have hl2 : (goneL s 64 x).length + 1 = (numsF (gnB s x) s.L).length := by rw [← hl]; simp
      rw [hl2]
      obtain ⟨b1, b2⟩ := Tw.nextP h1 h2 h4 h5 h6 hg a1 a2
      exact ⟨_, cc, rfl, hidden ⟨hr, b1, b2⟩⟩
  · rw [if_neg hb, if_neg hb, if_neg hb]
    refine (close_none h1 ho.toOkL.toOkP x (hasB_no.1 (by simpa using hb))).mono ?_
    rintro e w' ⟨rfl, hb'⟩
    exact ⟨none, 0, rfl, hidden ⟨World.ownsRow_nil _ _ _ _, r.later hb'⟩⟩
theorem Tw.dClose {B m d : Nat} {w0 w : World} {s t : Ps} {gs : List Nat} (r : Tw B m d w0 w s t gs) (ho : Iv t) (x : Int) :
    Calls Try.prog 54 #[.pointer (some ⟨d, 0, none⟩), .int .i64 x] w fun e w' => ∃ a c, e = .returned (.tuple #[.slice a (clZ t x).length c, .int .i64 (clE t x)]) ∧ Hid (w'.ownsRow w.heap.size 3 1 (.slice a (clZ t x).length c) (clZ t x).length (intsV (clZ t x)) ∧ Tw B m d w0 w' s (clN t x) gs ∧ Kept w w' gs) := by
  obtain ⟨v, u, h1, h2, h4, h5, h6, hg⟩ := id r
  have hn : t.L.length ≤ 1000 := by have := ho.f63; omega
  unfold clN clZ clE
  by_cases hb : hasB t.L x = true
  · rw [if_pos hb, if_pos hb, if_pos hb]
    have hx := hasB_iff.1 hb
    refine (dclose_any h2 ho h6 x hx).mono ?_
    rintro e w' ⟨a, n, c, rfl, rfl, hr, v', a1, a2⟩
    obtain ⟨b1, b2⟩ := Tw.nextQ h1 h2 h4 h5 h6 hg a1 a2
    exact ⟨a, c, rfl, hidden ⟨hr, b1, b2⟩⟩
  · rw [if_neg hb, if_neg hb, if_neg hb]
    refine (dclose_bad h2 hn x (by simpa using hb)).mono ?_
    rintro e w' ⟨rfl, rfl⟩
    exact ⟨none, 0, rfl, hidden ⟨World.ownsRow_nil _ _ _ _, r.later (Below.refl _ _)⟩⟩
/-- Arrange -/
def arN (s : Ps) (x mt sz key : Int) : Ps := if arrE s x mt key = 0 then arrS s x mt sz key else s
theorem arr_ok {s : Ps} (ho : Iv s) {x mt key : Int} (hE : arrE s x mt key = 0) : hasW s.L x ∧ (ofW s.L x).k = 4 ∧ mtdB mt = true ∧ (key = 0 ∨ hasW s.L key) ∧ prE s x = 0 := by
  unfold arrE at hE
  by_cases hp : prE s x = 0
  · rw [if_neg (fun q => q hp)] at hE
    have hp2 := hp
    unfold prE at hp2
    by_cases hb : hasB s.L x = false
    · rw [if_pos hb] at hp2; omega
    rw [if_neg hb] at hp2
    have hW : hasW s.L x := hasB_iff.1 (by simpa using hb)
    have h4 : (ofW s.L x).k = 4 := by
      by_cases h4 : (ofW s.L x).k = 4
      · exact h4
      · rw [if_neg h4] at hp2; omega
    by_cases q2 : mtdB mt = false
    · rw [if_pos q2] at hE; omega
    · rw [if_neg q2] at hE
      split at hE
      · omega
      · split at hE
        · omega
        · rename_i q4
          refine ⟨hW, h4, by simpa using q2, ?_, hp⟩
          by_cases k0 : key = 0
          · exact .inl k0
          · have : mayK s x key = true := by
              cases hm : mayK s x key with
              | true => rfl
              | false => exact absurd ⟨k0, hm⟩ q4
            unfold mayK at this
            simp only [Bool.and_eq_true] at this
            exact .inr (ho.bel_has hW this.1)
  · rw [if_pos hp] at hE; exact absurd hE hp
theorem iv_arN {s : Ps} (ho : Iv s) (x mt sz key : Int) (hs : 0 ≤ sz ∧ sz ≤ 4294967295) : Iv (arN s x mt sz key) ∧ (arN s x mt sz key).last ≤ s.last + 2 := by
  unfold arN
  by_cases hE : arrE s x mt key = 0
  · rw [if_pos hE]
    obtain ⟨a1, a2, a3, a4, _⟩ := arr_ok ho hE
    exact ⟨iv_arr ho x mt sz key a1 a2 a3 hs a4, by show s.last ≤ _; omega⟩
  · rw [if_neg hE]
    exact ⟨ho, by omega⟩
theorem Tw.kArr {B m d : Nat} {w0 w : World} {s t : Ps} {gs : List Nat} (r : Tw B m d w0 w s t gs) (ho : Iv s) (x mt sz key : Int) (hm0 : -9223372036854775808 ≤ mt) (hm1 : mt ≤ 9223372036854775807) :
    Calls Try.prog 29 #[.pointer (some ⟨m, 0, none⟩), .int .i64 x, .int .i64 mt, .int .u32 sz, .int .i64 key] w fun e w' => e = .returned (.int .i64 (arrE s x mt key)) ∧ Hid (Tw B m d w0 w' (arN s x mt sz key) t gs ∧ Kept w w' gs) := by
  obtain ⟨v, u, h1, h2, h4, h5, h6, hg⟩ := id r
  unfold arN
  by_cases hp : prE s x = 0
  · obtain ⟨p1, p2⟩ := arrange_pair h1 ho x mt sz key hp hm0 hm1
    by_cases hE : arrE s x mt key = 0
    · rw [if_pos hE, hE]
      exact (p2 hE).mono (fun e w' hh => ⟨hh.1, hidden (Tw.nextP h1 h2 h4 h5 h6 hg hh.2.1 hh.2.2)⟩)
    · rw [if_neg hE]
      exact (p1 hE).mono (fun e w' hh => ⟨hh.1, hidden (r.later hh.2.out)⟩)
  · have hE : arrE s x mt key = prE s x := by unfold arrE; rw [if_pos hp]
    rw [hE, if_neg hp]
    exact (arrange_nopair h1 ho.toOkL.toOkP x mt sz key _ rfl hp).mono (fun e w' hh => ⟨hh.1, hidden (r.later hh.2.out)⟩)
theorem Tw.dArr {B m d : Nat} {w0 w : World} {s t : Ps} {gs : List Nat} (r : Tw B m d w0 w s t gs) (ho : Iv t) (x mt sz key : Int) :
    Calls Try.prog 55 #[.pointer (some ⟨d, 0, none⟩), .int .i64 x, .int .i64 mt, .int .u32 sz, .int .i64 key] w fun e w' => e = .returned (.int .i64 (arrE t x mt key)) ∧ Hid (Tw B m d w0 w' s (arN t x mt sz key) gs ∧ Kept w w' gs) := by
  obtain ⟨v, u, h1, h2, h4, h5, h6, hg⟩ := id r
  have hn : t.L.length ≤ 1000 := by have := ho.f63; omega
  unfold arN
  by_cases hp : prE t x = 0
  · obtain ⟨p1, p2⟩ := darr_pair h2 ho x mt sz key hp
    by_cases hE : arrE t x mt key = 0
    · rw [if_pos hE, hE]
      exact (p2 hE).mono (fun e w' hh => ⟨hh.1, hidden (Tw.nextQ h1 h2 h4 h5 h6 hg hh.2.1 hh.2.2)⟩)
    · rw [if_neg hE]
      exact (p1 hE).mono (fun e w' hh => ⟨hh.1, hidden (r.later hh.2.out)⟩)
  · have hE : arrE t x mt key = prE t x := by unfold arrE; rw [if_pos hp]
    rw [hE, if_neg hp]
    exact (darr_nopair h2 hn x mt sz key _ rfl hp).mono (fun e w' hh => ⟨hh.1, hidden (r.later hh.2.out)⟩)
/-- Resize -/
def rsN (s : Ps) (x y : Int) : Ps := if scrB x y = true then { s with w := x, h := y } else s
def rsE (x y : Int) : Int := if scrB x y = true then 0 else 1
theorem iv_rsN {s : Ps} (ho : Iv s) (x y : Int) : Iv (rsN s x y) ∧ (rsN s x y).last ≤ s.last + 2 := by
  unfold rsN
  by_cases hs : scrB x y = true
  · rw [if_pos hs]; exact ⟨iv_resize ho x y hs, by show s.last ≤ _; omega⟩
  · rw [if_neg hs]; exact ⟨ho, by omega⟩
theorem Tw.kRes {B m d : Nat} {w0 w : World} {s t : Ps} {gs : List Nat} (r : Tw B m d w0 w s t gs) (x y : Int) :
    Calls Try.prog 31 #[.pointer (some ⟨m, 0, none⟩), .int .i64 x, .int .i64 y] w fun e w' => e = .returned (.int .i64 (rsE x y)) ∧ Hid (Tw B m d w0 w' (rsN s x y) t gs ∧ Kept w w' gs) := by
  obtain ⟨v, u, h1, h2, h4, h5, h6, hg⟩ := id r
  unfold rsN rsE
  by_cases hs : scrB x y = true
  · rw [if_pos hs, if_pos hs]
    exact (resize_good h1 x y hs).mono (fun e w' hh => ⟨hh.1, hidden (Tw.nextP h1 h2 h4 h5 h6 hg hh.2.1 hh.2.2)⟩)
  · rw [if_neg hs, if_neg hs]
    exact (resize_bad (m := m) x y (by simpa using hs)).mono (fun e w' hh => ⟨hh.1, hidden (r.later (by rw [hh.2]; exact Below.refl _ _))⟩)
theorem Tw.dRes {B m d : Nat} {w0 w : World} {s t : Ps} {gs : List Nat} (r : Tw B m d w0 w s t gs) (x y : Int) :
    Calls Try.prog 56 #[.pointer (some ⟨d, 0, none⟩), .int .i64 x, .int .i64 y] w fun e w' => e = .returned (.int .i64 (rsE x y)) ∧ Hid (Tw B m d w0 w' s (rsN t x y) gs ∧ Kept w w' gs) := by
  obtain ⟨v, u, h1, h2, h4, h5, h6, hg⟩ := id r
  unfold rsN rsE
  by_cases hs : scrB x y = true
  · rw [if_pos hs, if_pos hs]
    exact (dresize_good h2 x y hs).mono (fun e w' hh => ⟨hh.1, hidden (Tw.nextQ h1 h2 h4 h5 h6 hg hh.2.1 hh.2.2)⟩)
  · rw [if_neg hs, if_neg hs]
    exact (dresize_bad (m := d) x y (by simpa using hs)).mono (fun e w' hh => ⟨hh.1, hidden (r.later (by rw [hh.2]; exact Below.refl _ _))⟩)
end Go.Proofs.Ytilfgbcbodjegaa
