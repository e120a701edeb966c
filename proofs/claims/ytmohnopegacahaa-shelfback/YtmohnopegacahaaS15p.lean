/- Layer 15: the shelf behind a stream that wrote a character. -/
import Derived.Test.YtmohnopegacahaaS15o
namespace Go.Proofs.Ytmohnopegacahaa
open Go.RowKit
set_option maxHeartbeats 1000000
set_option maxRecDepth 100000
set_option linter.unusedVariables false

def updF (F : List Fl) (b : Nat) (v : Value) (z : List Int) : List Fl := F.map (fun f => if f.b = b then { f with v := v, zs := z } else f)
def updG (F : List Bu) (b : Nat) (v : Value) (z : List Int) : List Bu := F.map (fun f => if f.b = b then { f with v := v, zs := z } else f)
def wroteS (s : Sh) (i : Nat) (d : Sm) (v : Value) (z : List Int) : Sh := if d.f then { s with S := s.S.set i d, F := updF s.F d.g v z } else { s with S := s.S.set i d, G := updG s.G d.g v z }
theorem find_upd (F : List Fl) (b : Nat) (v : Value) (z : List Int) (nm : List UInt8) : findF (updF F b v z) nm = (findF F nm).map (fun f => if f.b = b then { f with v := v, zs := z } else f) := by
  unfold findF updF
  rw [List.find?_map]
  congr 2
  funext f
  show ((if f.b = b then { f with v := v, zs := z } else f).nm == nm) = (f.nm == nm)
  split <;> rfl
theorem enc_upd (o : Option Fl) (b : Nat) (v : Value) (z : List Int) : encF (o.map (fun f => if f.b = b then { f with v := v, zs := z } else f)) = encF o := by
  cases o with
  | none => rfl
  | some f =>
    show encF (some (if f.b = b then { f with v := v, zs := z } else f)) = encF (some f)
    split <;> rfl
theorem MpAt.upd {B : Nat} {w : World} {fm : Option Nat} {F : List Fl} (h : MpAt B w fm F) (b : Nat) (v : Value) (z : List Int) : MpAt B w fm (updF F b v z) := by
  cases fm with
  | none =>
    have : F = [] := h
    subst this
    rfl
  | some mb =>
    obtain ⟨h0, n, D, h1, h2, h3⟩ := h
    refine ⟨h0, n, D, h1, h2, ⟨fun nm => by rw [find_upd, enc_upd]; exact h3.at_ nm, fun nm => by rw [find_upd, Option.isSome_map]; exact h3.has nm, by rw [h3.size]; simp [updF], ?_⟩⟩
    unfold updF
    rw [List.pairwise_map]
    refine h3.nd.imp (fun {a c} q => ?_)
    split <;> split <;> exact q
theorem set_ok {s : Sh} (ok : OkS s) (i : Nat) (hi : i < s.S.length) (d : Sm) (hk : d.k = s.S[i].k) (hn : d.n = s.S[i].n) : (s.S.set i d).Pairwise (fun a b => a.k ≠ b.k) ∧ Sorted (s.S.set i d) ∧ ptrsV (s.S.set i d) = ptrsV s.S := by
  have hg : ∀ j (hj : j < (s.S.set i d).length) (hj2 : j < s.S.length), (s.S.set i d)[j].k = s.S[j].k ∧ (s.S.set i d)[j].n = s.S[j].n := fun j hj hj2 => by
    rw [List.getElem_set]
    split
    · rename_i e; subst e; exact ⟨hk, hn⟩
    · exact ⟨rfl, rfl⟩
  refine ⟨?_, ⟨?_⟩, ?_⟩
  · rw [List.pairwise_iff_getElem]
    intro a b ha hb hab
    have ha2 : a < s.S.length := by simpa using ha
    have hb2 : b < s.S.length := by simpa using hb
    rw [(hg a ha ha2).1, (hg b hb hb2).1]
    exact List.pairwise_iff_getElem.1 ok.sk a b ha2 hb2 hab
  · intro a b hab hb ha
    have ha2 : a < s.S.length := by simpa using ha
    have hb2 : b < s.S.length := by simpa using hb
    rw [(hg a ha ha2).2, (hg b hb hb2).2]
    exact ok.so.rise a b hab hb2 ha2
  · apply List.ext_getElem
    · simp [ptrsV]
    · intro j h1 h2
      have hj : j < s.S.length := by simpa [ptrsV] using h2
      simp only [ptrsV, List.getElem_map]
      rw [(hg j (by simpa using hj) hj).1]
theorem mem_set {s : Sh} (i : Nat) (d : Sm) {e : Sm} (h : e ∈ s.S.set i d) : e = d ∨ ∃ j, ∃ hj : j < s.S.length, j ≠ i ∧ s.S[j] = e := by
  obtain ⟨j, hj, rfl⟩ := List.getElem_of_mem h
  have hj2 : j < s.S.length := by simpa using hj
  rw [List.getElem_set]
  split
  · exact .inl rfl
  · rename_i e; exact .inr ⟨j, hj2, fun q => e q.symm, rfl⟩

theorem wrote_file {B m : Nat} {w w' : World} {s : Sh} (h : ShAt B w m s) (ok : OkS s) (i : Nat) (hi : i < s.S.length) (d : Sm) (hk : d.k = s.S[i].k) (hn : d.n = s.S[i].n) (hdf : d.f = true) (g0 : Fl) (hg0 : g0 ∈ s.F) (hgb : g0.b = d.g) (v' : Value) (z : List Int)
    (hA : FAt B w' d.g v' z) (hd : SBox w' d) (f : Fm w w' (fun k => k = d.k ∨ TF d.g g0.v k) (fun k => k = d.k ∨ TF d.g v' k)) :
    ShAt B w' m { s with S := s.S.set i d, F := updF s.F d.g v' z } ∧ OkS { s with S := s.S.set i d, F := updF s.F d.g v' z } := by
  have hsi := (h.ss _ (List.getElem_mem hi)).2
  have hga := h.fs g0 hg0
  obtain ⟨sk2, so2, pv2⟩ := set_ok ok i hi d hk hn
  have hXk : tyAt w d.k = some 80 := by rw [hk]; exact ty_box hsi
  have hXb : tyAt w d.g = some 75 := by rw [← hgb]; exact ty_box hga.box
  have hXr : ∀ k, g0.v.ownBlock = some k → tyAt w k = some 5 := fun k e => ty_row hga.row e
  have hX : ∀ k, (k = d.k ∨ TF d.g g0.v k) → tyAt w k = some 80 ∨ tyAt w k = some 75 ∨ tyAt w k = some 5 := by
    rintro k (rfl | rfl | e)
    · exact .inl hXk
    · exact .inr (.inl hXb)
    · exact .inr (.inr (hXr k e))
  have no : ∀ k t, tyAt w k = some t → t ≠ 80 → t ≠ 75 → t ≠ 5 → ¬ (k = d.k ∨ TF d.g g0.v k) := by
    intro k t e1 n1 n2 n3 q
    rcases hX k q with e | e | e <;> rw [e1] at e <;> simp at e
    · exact n1 e
    · exact n2 e
    · exact n3 e
  have hap : ∀ x ∈ s.F, x.b ≠ d.g → Apart x.b x.v g0.b g0.v := fun x hx hne => by
    obtain ⟨a, ha, rfl⟩ := List.getElem_of_mem hx
    obtain ⟨c, hc, rfl⟩ := List.getElem_of_mem hg0
    rcases (show a < c ∨ a = c ∨ c < a by omega) with q | q | q
    · exact List.pairwise_iff_getElem.1 ok.fk a c ha hc q
    · subst q; exact absurd hgb hne
    · have := List.pairwise_iff_getElem.1 ok.fk c a hc ha q
      exact ⟨fun e => this.1 e.symm, fun k e1 e2 => this.2 k e2 e1⟩
  have hob : ∀ x ∈ s.F, x.b ≠ d.g → ¬ (x.b = d.k ∨ TF d.g g0.v x.b) ∧ ∀ k, x.v.ownBlock = some k → ¬ (k = d.k ∨ TF d.g g0.v k) := fun x hx hne => by
    have hxa := h.fs x hx
    refine ⟨?_, fun k e => ?_⟩
    · rintro (q | q | q)
      · have := ty_box hxa.box; rw [q, hXk] at this; exact absurd this (by decide)
      · exact hne q
      · have := ty_box hxa.box; rw [hXr _ q] at this; exact absurd this (by decide)
    · have hk2 := ty_row hxa.row e
      rintro (q | q | q)
      · rw [q, hXk] at hk2; exact absurd hk2 (by decide)
      · rw [q, hXb] at hk2; exact absurd hk2 (by decide)
      · exact (hap x hx hne).2 k e q
  refine ⟨h.part f (fun k e => ?_) rfl rfl rfl rfl pv2 (by simp) (h.mp.upd _ _ _) ?_ ?_ ?_, ⟨sk2, so2, by simpa using ok.few, ?_, ?_, ?_, ok.last0, ?_, ok.most0⟩⟩
  · rcases hX k e with q | q | q <;> rw [q] <;> exact ⟨by decide, by decide, by simp⟩
  · intro e he
    rcases mem_set i d he with rfl | ⟨j, hj, hne, rfl⟩
    · exact ⟨by rw [hk]; exact (h.ss _ (List.getElem_mem hi)).1, hd⟩
    · have hb := h.ss _ (List.getElem_mem hj)
      refine ⟨hb.1, hb.2.fm f ?_⟩
      rintro (q | q | q)
      · rw [hk] at q
        rcases (show j < i ∨ i < j by omega) with q2 | q2
        · exact List.pairwise_iff_getElem.1 ok.sk j i hj hi q2 q
        · exact List.pairwise_iff_getElem.1 ok.sk i j hi hj q2 q.symm
      · have := ty_box hb.2; rw [q, hXb] at this; exact absurd this (by decide)
      · have := ty_box hb.2; rw [hXr _ q] at this; exact absurd this (by decide)
  · intro x hx
    obtain ⟨y, hy, rfl⟩ := List.mem_map.1 hx
    by_cases e : y.b = d.g
    · simp only [e, ↓reduceIte]
      exact hA
    · simp only [e, ↓reduceIte]
      exact (h.fs y hy).fm f (hob y hy e).1 (hob y hy e).2
  · intro x hx
    have hxa := h.gs x hx
    exact hxa.fm f (no _ _ (ty_box hxa.box) (by decide) (by decide) (by decide)) (fun k e => no _ _ (ty_row hxa.row e) (by decide) (by decide) (by decide))
  · show (updF s.F d.g v' z).Pairwise _
    unfold updF
    rw [List.pairwise_map, List.pairwise_iff_getElem]
    intro a c ha hc hac
    have h0 := List.pairwise_iff_getElem.1 ok.fk a c ha hc hac
    have hv : ∀ x ∈ s.F, x.b ≠ d.g → ∀ k, v'.ownBlock = some k → x.v.ownBlock ≠ some k := fun x hx hne k e1 e2 => by
      rcases f.row k (.inr (.inr e1)) with q | q
      · exact (hob x hx hne).2 k e2 q
      · have := (row_lt (h.fs x hx).row e2).2; omega
    by_cases e1 : s.F[a].b = d.g
    · by_cases e2 : s.F[c].b = d.g
      · exact absurd (e1.trans e2.symm) h0.1
      · simp only [e1, e2, ↓reduceIte]
        exact ⟨fun q => e2 q.symm, fun k q1 q2 => hv _ (List.getElem_mem hc) e2 k q1 q2⟩
    · by_cases e2 : s.F[c].b = d.g
      · simp only [e1, e2, ↓reduceIte]
        exact ⟨fun q => e1 q, fun k q1 q2 => hv _ (List.getElem_mem ha) e1 k q2 q1⟩
      · simp only [e1, e2, ↓reduceIte]
        exact h0
  · exact ok.gk
  · intro e he
    rcases mem_set i d he with rfl | ⟨j, hj, hne, rfl⟩
    · refine ⟨fun _ => ⟨_, List.mem_map.2 ⟨g0, hg0, rfl⟩, by split <;> exact hgb⟩, fun q => (by rw [hdf] at q; cases q)⟩
    · have hm := List.getElem_mem hj
      refine ⟨fun q => ?_, fun q => ?_⟩
      · skip
        obtain ⟨y, hy, e⟩ := (ok.on _ hm).1 q
        exact ⟨_, List.mem_map.2 ⟨y, hy, rfl⟩, by split <;> exact e⟩
      · skip
        exact (ok.on _ hm).2 q
  · intro e he
    rcases mem_set i d he with rfl | ⟨j, hj, hne, rfl⟩
    · show 1 ≤ e.n ∧ e.n ≤ s.last
      rw [hn]; exact ok.low _ (List.getElem_mem hi)
    · exact ok.low _ (List.getElem_mem hj)

theorem wrote_buf {B m : Nat} {w w' : World} {s : Sh} (h : ShAt B w m s) (ok : OkS s) (i : Nat) (hi : i < s.S.length) (d : Sm) (hk : d.k = s.S[i].k) (hn : d.n = s.S[i].n) (hdf : d.f = false) (g0 : Bu) (hg0 : g0 ∈ s.G) (hgb : g0.b = d.g) (v' : Value) (z : List Int)
    (hA : BAt B w' d.g v' z) (hd : SBox w' d) (f : Fm w w' (fun k => k = d.k ∨ TF d.g g0.v k) (fun k => k = d.k ∨ TF d.g v' k)) :
    ShAt B w' m { s with S := s.S.set i d, G := updG s.G d.g v' z } ∧ OkS { s with S := s.S.set i d, G := updG s.G d.g v' z } := by
  have hsi := (h.ss _ (List.getElem_mem hi)).2
  have hga := h.gs g0 hg0
  obtain ⟨sk2, so2, pv2⟩ := set_ok ok i hi d hk hn
  have hXk : tyAt w d.k = some 80 := by rw [hk]; exact ty_box hsi
  have hXb : tyAt w d.g = some 97 := by rw [← hgb]; exact ty_box hga.box
  have hXr : ∀ k, g0.v.ownBlock = some k → tyAt w k = some 32 := fun k e => ty_row hga.row e
  have hX : ∀ k, (k = d.k ∨ TF d.g g0.v k) → tyAt w k = some 80 ∨ tyAt w k = some 97 ∨ tyAt w k = some 32 := by
    rintro k (rfl | rfl | e)
    · exact .inl hXk
    · exact .inr (.inl hXb)
    · exact .inr (.inr (hXr k e))
  have no : ∀ k t, tyAt w k = some t → t ≠ 80 → t ≠ 97 → t ≠ 32 → ¬ (k = d.k ∨ TF d.g g0.v k) := by
    intro k t e1 n1 n2 n3 q
    rcases hX k q with e | e | e <;> rw [e1] at e <;> simp at e
    · exact n1 e
    · exact n2 e
    · exact n3 e
  have hap : ∀ x ∈ s.G, x.b ≠ d.g → Apart x.b x.v g0.b g0.v := fun x hx hne => by
    obtain ⟨a, ha, rfl⟩ := List.getElem_of_mem hx
    obtain ⟨c, hc, rfl⟩ := List.getElem_of_mem hg0
    rcases (show a < c ∨ a = c ∨ c < a by omega) with q | q | q
    · exact List.pairwise_iff_getElem.1 ok.gk a c ha hc q
    · subst q; exact absurd hgb hne
    · have := List.pairwise_iff_getElem.1 ok.gk c a hc ha q
      exact ⟨fun e => this.1 e.symm, fun k e1 e2 => this.2 k e2 e1⟩
  have hob : ∀ x ∈ s.G, x.b ≠ d.g → ¬ (x.b = d.k ∨ TF d.g g0.v x.b) ∧ ∀ k, x.v.ownBlock = some k → ¬ (k = d.k ∨ TF d.g g0.v k) := fun x hx hne => by
    have hxa := h.gs x hx
    refine ⟨?_, fun k e => ?_⟩
    · rintro (q | q | q)
      · have := ty_box hxa.box; rw [q, hXk] at this; exact absurd this (by decide)
      · exact hne q
      · have := ty_box hxa.box; rw [hXr _ q] at this; exact absurd this (by decide)
    · have hk2 := ty_row hxa.row e
      rintro (q | q | q)
      · rw [q, hXk] at hk2; exact absurd hk2 (by decide)
      · rw [q, hXb] at hk2; exact absurd hk2 (by decide)
      · exact (hap x hx hne).2 k e q
  refine ⟨h.part f (fun k e => ?_) rfl rfl rfl rfl pv2 (by simp) h.mp ?_ ?_ ?_, ⟨sk2, so2, by simpa using ok.few, ?_, ?_, ?_, ok.last0, ?_, ok.most0⟩⟩
  · rcases hX k e with q | q | q <;> rw [q] <;> exact ⟨by decide, by decide, by simp⟩
  · intro e he
    rcases mem_set i d he with rfl | ⟨j, hj, hne, rfl⟩
    · exact ⟨by rw [hk]; exact (h.ss _ (List.getElem_mem hi)).1, hd⟩
    · have hb := h.ss _ (List.getElem_mem hj)
      refine ⟨hb.1, hb.2.fm f ?_⟩
      rintro (q | q | q)
      · rw [hk] at q
        rcases (show j < i ∨ i < j by omega) with q2 | q2
        · exact List.pairwise_iff_getElem.1 ok.sk j i hj hi q2 q
        · exact List.pairwise_iff_getElem.1 ok.sk i j hi hj q2 q.symm
      · have := ty_box hb.2; rw [q, hXb] at this; exact absurd this (by decide)
      · have := ty_box hb.2; rw [hXr _ q] at this; exact absurd this (by decide)
  · intro x hx
    have hxa := h.fs x hx
    exact hxa.fm f (no _ _ (ty_box hxa.box) (by decide) (by decide) (by decide)) (fun k e => no _ _ (ty_row hxa.row e) (by decide) (by decide) (by decide))
  · intro x hx
    obtain ⟨y, hy, rfl⟩ := List.mem_map.1 hx
    by_cases e : y.b = d.g
    · simp only [e, ↓reduceIte]
      exact hA
    · simp only [e, ↓reduceIte]
      exact (h.gs y hy).fm f (hob y hy e).1 (hob y hy e).2
  · exact ok.fk
  · show (updG s.G d.g v' z).Pairwise _
    unfold updG
    rw [List.pairwise_map, List.pairwise_iff_getElem]
    intro a c ha hc hac
    have h0 := List.pairwise_iff_getElem.1 ok.gk a c ha hc hac
    have hv : ∀ x ∈ s.G, x.b ≠ d.g → ∀ k, v'.ownBlock = some k → x.v.ownBlock ≠ some k := fun x hx hne k e1 e2 => by
      rcases f.row k (.inr (.inr e1)) with q | q
      · exact (hob x hx hne).2 k e2 q
      · have := (row_lt (h.gs x hx).row e2).2; omega
    by_cases e1 : s.G[a].b = d.g
    · by_cases e2 : s.G[c].b = d.g
      · exact absurd (e1.trans e2.symm) h0.1
      · simp only [e1, e2, ↓reduceIte]
        exact ⟨fun q => e2 q.symm, fun k q1 q2 => hv _ (List.getElem_mem hc) e2 k q1 q2⟩
    · by_cases e2 : s.G[c].b = d.g
      · simp only [e1, e2, ↓reduceIte]
        exact ⟨fun q => e1 q, fun k q1 q2 => hv _ (List.getElem_mem ha) e1 k q2 q1⟩
      · simp only [e1, e2, ↓reduceIte]
        exact h0
  · intro e he
    rcases mem_set i d he with rfl | ⟨j, hj, hne, rfl⟩
    · refine ⟨fun q => (by rw [hdf] at q; cases q), fun _ => ⟨_, List.mem_map.2 ⟨g0, hg0, rfl⟩, by split <;> exact hgb⟩⟩
    · have hm := List.getElem_mem hj
      refine ⟨fun q => ?_, fun q => ?_⟩
      · skip
        exact (ok.on _ hm).1 q
      · skip
        obtain ⟨y, hy, e⟩ := (ok.on _ hm).2 q
        exact ⟨_, List.mem_map.2 ⟨y, hy, rfl⟩, by split <;> exact e⟩
  · intro e he
    rcases mem_set i d he with rfl | ⟨j, hj, hne, rfl⟩
    · show 1 ≤ e.n ∧ e.n ≤ s.last
      rw [hn]; exact ok.low _ (List.getElem_mem hi)
    · exact ok.low _ (List.getElem_mem hj)
end Go.Proofs.Ytmohnopegacahaa
