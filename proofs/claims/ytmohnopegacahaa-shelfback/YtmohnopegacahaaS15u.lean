/- Layer 15, the program: Write. -/
import Derived.Test.YtmohnopegacahaaS15t
namespace Go.Proofs.Ytmohnopegacahaa
open Go.RowKit
set_option maxHeartbeats 1000000
set_option maxRecDepth 100000
set_option linter.unusedVariables false

/-- a stream and its ground behind one character -/
structure Wr where
  pl : Nat
  wr : Int
  zs : List Int
def wrOne (f wd : Bool) (a : Wr) (c : Int) : Wr := ⟨min (a.pl + 1) (gsz f wd (gput f wd a.zs a.pl (asW c wd))), up32 a.wr, gput f wd a.zs a.pl (asW c wd)⟩
def wrAll (f wd : Bool) (a : Wr) (l : List Nat) : Wr := l.foldl (fun b (c : Nat) => wrOne f wd b (c : Int)) a
def wrD (d : Sm) (a : Wr) : Sm := { d with pl := a.pl, wr := a.wr }
def wrS (s : Sh) (i : Nat) (d : Sm) (v : Value) (z : List Int) : Sh := if d.f = true then { s with S := s.S.set i d, F := updF s.F d.g v z } else { s with S := s.S.set i d, G := updG s.G d.g v z }
theorem wrAll_snoc (f wd : Bool) (a : Wr) (l : List Nat) (j : Nat) (hj : j < l.length) : wrAll f wd a (l.take (j + 1)) = wrOne f wd (wrAll f wd a (l.take j)) ((l.getD j 0 : Nat) : Int) := by
  unfold wrAll
  rw [List.take_add_one, List.getElem?_eq_getElem hj, show l.getD j 0 = l[j] by simp [List.getD_eq_getElem?_getD, hj], List.foldl_append]
  rfl
/-- the place stays within the size -/
theorem wrOne_pl (f wd : Bool) (a : Wr) (c : Int) : (wrOne f wd a c).pl ≤ gsz f wd (wrOne f wd a c).zs := Nat.min_le_right _ _
theorem wrAll_pl (f wd : Bool) (a : Wr) (l : List Nat) (h : a.pl ≤ gsz f wd a.zs) : (wrAll f wd a l).pl ≤ gsz f wd (wrAll f wd a l).zs ∧ (wrAll f wd a l).pl ≤ a.pl + l.length := by
  induction l generalizing a with
  | nil => exact ⟨h, by simp [wrAll]⟩
  | cons c r ih =>
    have h1 := ih (wrOne f wd a (c : Int)) (wrOne_pl f wd a c)
    have e : wrAll f wd a (c :: r) = wrAll f wd (wrOne f wd a (c : Int)) r := rfl
    rw [e]
    refine ⟨h1.1, Nat.le_trans h1.2 ?_⟩
    have : (wrOne f wd a (c : Int)).pl ≤ a.pl + 1 := Nat.min_le_left _ _
    simp
    omega
/-- the shelf behind some characters: what it is like -/
def WrAt (B : Nat) (w : World) (m : Nat) (s : Sh) (i : Nat) (d : Sm) (a : Wr) (w' : World) : Prop := ∃ s' v', ShAt B w' m s' ∧ OkS s' ∧ Fm w w' (TS m s) (TS m s') ∧ GAt B w' d.f d.g v' a.zs ∧ SBox w' (wrD d a) ∧ s'.S = s.S.set i (wrD d a) ∧ s'.most = s.most ∧ s'.fm = s.fm ∧ s'.last = s.last ∧ s'.sv = s.sv ∧
  (d.f = true → s'.F = updF s.F d.g v' a.zs ∧ s'.G = s.G) ∧ (d.f = false → s'.F = s.F ∧ s'.G = updG s.G d.g v' a.zs)
theorem updF_updF (F : List Fl) (b : Nat) (v v2 : Value) (z z2 : List Int) : updF (updF F b v z) b v2 z2 = updF F b v2 z2 := by
  unfold updF
  rw [List.map_map]
  congr 1
  funext f
  simp only [Function.comp]
  by_cases e : f.b = b <;> simp [e]
theorem updG_updG (F : List Bu) (b : Nat) (v v2 : Value) (z z2 : List Int) : updG (updG F b v z) b v2 z2 = updG F b v2 z2 := by
  unfold updG
  rw [List.map_map]
  congr 1
  funext f
  simp only [Function.comp]
  by_cases e : f.b = b <;> simp [e]
theorem WrAt.start {B m : Nat} {w w' : World} {s : Sh} (h : ShAt B w' m s) (ok : OkS s) (hb : Below w.heap.size w w') (i : Nat) (hi : i < s.S.length) : WrAt B w m s i s.S[i] ⟨s.S[i].pl, s.S[i].wr, zsOf s s.S[i]⟩ w' := by
  have hm := List.getElem_mem hi
  obtain ⟨v, hg, g1, g2⟩ := h.ground ok hm
  have hF : ∀ (F : List Fl) (b : Nat) (v : Value) (z : List Int), (∀ f ∈ F, f.b = b → f.v = v ∧ f.zs = z) → updF F b v z = F := fun F b v z hh => by
    unfold updF
    conv => rhs; rw [← List.map_id F]
    refine List.map_congr_left (fun f hf => ?_)
    by_cases e : f.b = b
    · obtain ⟨e1, e2⟩ := hh f hf e
      simp only [e, ↓reduceIte, id]
      cases f; simp_all
    · simp [e]
  have hG : ∀ (F : List Bu) (b : Nat) (v : Value) (z : List Int), (∀ f ∈ F, f.b = b → f.v = v ∧ f.zs = z) → updG F b v z = F := fun F b v z hh => by
    unfold updG
    conv => rhs; rw [← List.map_id F]
    refine List.map_congr_left (fun f hf => ?_)
    by_cases e : f.b = b
    · obtain ⟨e1, e2⟩ := hh f hf e
      simp only [e, ↓reduceIte, id]
      cases f; simp_all
    · simp [e]
  refine ⟨s, v, h, ok, Fm.same hb, hg, (h.ss _ hm).2, ?_, rfl, rfl, rfl, rfl, fun q => ⟨?_, rfl⟩, fun q => ⟨rfl, ?_⟩⟩
  · show s.S = s.S.set i s.S[i]
    rw [List.set_getElem_self]
  · obtain ⟨f0, hf0, e1, e2⟩ := g1 q
    refine (hF s.F _ v _ (fun f hf e => ?_)).symm
    have hff : f = f0 := by
      obtain ⟨a, ha, rfl⟩ := List.getElem_of_mem hf
      obtain ⟨c, hc, rfl⟩ := List.getElem_of_mem hf0
      rcases (show a < c ∨ a = c ∨ c < a by omega) with x | x | x
      · exact absurd (e.trans e1.symm) (List.pairwise_iff_getElem.1 ok.fk a c ha hc x).1
      · subst x; rfl
      · exact absurd (e1.trans e.symm) (List.pairwise_iff_getElem.1 ok.fk c a hc ha x).1
    subst hff
    refine ⟨e2, ?_⟩
    unfold zsOf
    rw [if_pos q, ← e]
    exact (grF_at ok.fk hf).symm
  · obtain ⟨f0, hf0, e1, e2⟩ := g2 q
    refine (hG s.G _ v _ (fun f hf e => ?_)).symm
    have hff : f = f0 := by
      obtain ⟨a, ha, rfl⟩ := List.getElem_of_mem hf
      obtain ⟨c, hc, rfl⟩ := List.getElem_of_mem hf0
      rcases (show a < c ∨ a = c ∨ c < a by omega) with x | x | x
      · exact absurd (e.trans e1.symm) (List.pairwise_iff_getElem.1 ok.gk a c ha hc x).1
      · subst x; rfl
      · exact absurd (e1.trans e.symm) (List.pairwise_iff_getElem.1 ok.gk c a hc ha x).1
    subst hff
    refine ⟨e2, ?_⟩
    unfold zsOf
    rw [if_neg (by rw [q]; simp), ← e]
    exact (grG_at ok.gk hf).symm
theorem WrAt.step {B m : Nat} {w w5 : World} {s : Sh} {i : Nat} (hi : i < s.S.length) {a : Wr} (h : WrAt B w m s i s.S[i] a w5) (hB : B ≤ w.heap.size) (hp : a.pl ≤ gsz s.S[i].f s.S[i].wd a.zs) (hr : (a.pl + 1) * wdN s.S[i].wd ≤ 4000000) (c : Int) (hc : 0 ≤ c ∧ c ≤ 4294967295) :
    Calls Try.prog 37 #[.pointer (some ⟨s.S[i].k, 0, none⟩), .int .u32 c] w5 fun e w' => e = .returned (.tuple #[]) ∧ Hid (WrAt B w m s i s.S[i] (wrOne s.S[i].f s.S[i].wd a c) w') := by
  obtain ⟨s5, v5, h5, ok5, f5, g5, b5, e1, e2, e3, e4, e5, e6, e7⟩ := h
  generalize hd : s.S[i] = d at *
  have hl5 : i < s5.S.length := by rw [e1, List.length_set]; exact hi
  have hs5 : s5.S[i] = wrD d a := by simp only [e1]; rw [List.getElem_set_self]
  refine (owrite_any (wrD d a) b5 g5 (Nat.le_trans hB f5.size) hp hr c hc).mono ?_
  rintro e w' ⟨rfl, H⟩
  refine ⟨rfl, hidden ?_⟩
  obtain ⟨v6, g6, b6, f6⟩ := H.out
  have hset : ∀ x : Sm, s5.S.set i x = s.S.set i x := fun x => by rw [e1, List.set_set]
  rcases (show d.f = false ∨ d.f = true by cases d.f <;> simp) with hf | hf
  · obtain ⟨q1, q2⟩ := e7 hf
    obtain ⟨g0, hg0, hgb⟩ := (ok5.on s5.S[i] (List.getElem_mem hl5)).2 (by rw [hs5]; exact hf)
    rw [hs5] at hgb
    have hgv : g0.v = v5 := by
      rw [q2] at hg0
      obtain ⟨y, hy, rfl⟩ := List.mem_map.1 hg0
      by_cases e : y.b = d.g
      · simp [e]
      · simp only [e, ↓reduceIte] at hgb; exact absurd hgb e
    have hA : BAt B w' d.g v6 (wrOne d.f d.wd a c).zs := by have := g6; unfold GAt at this; simp only [wrD, hf] at this; rw [hf]; exact this
    obtain ⟨h6, ok6⟩ := wrote_buf h5 ok5 i hl5 (wrD d (wrOne d.f d.wd a c)) (by rw [hs5]; rfl) (by rw [hs5]; rfl) hf g0 hg0 hgb v6 (wrOne d.f d.wd a c).zs hA b6 (by rw [hgv]; exact f6)
    refine ⟨_, v6, h6, ok6, f5.trans (f6.to (fun k e => ?_) (fun k e => ?_)), g6, b6, hset _, e2, e3, e4, e5, fun q => (by rw [hf] at q; cases q), fun _ => ⟨q1, ?_⟩⟩
    · rcases e with e | e
      · exact .inr (.inr (.inr (.inl ⟨s5.S[i], List.getElem_mem hl5, by rw [hs5]; exact e⟩)))
      · exact .inr (.inr (.inr (.inr (.inr ⟨g0, hg0, by rw [hgb, hgv]; exact e⟩))))
    · rcases e with e | e | e | ⟨x, hx, e⟩ | e | ⟨x, hx, e⟩
      · exact .inl (.inl e)
      · exact .inl (.inr (.inl e))
      · exact .inl (.inr (.inr (.inl e)))
      · rcases mem_set i _ hx with rfl | ⟨j, hj, hne, rfl⟩
        · exact .inr (.inl e)
        · exact .inl (.inr (.inr (.inr (.inl ⟨_, List.getElem_mem hj, e⟩))))
      · exact .inl (.inr (.inr (.inr (.inr (.inl e)))))
      · obtain ⟨y, hy, rfl⟩ := List.mem_map.1 hx
        by_cases q : y.b = (wrD d (wrOne d.f d.wd a c)).g
        · simp only [q, ↓reduceIte] at e
          exact .inr (.inr e)
        · simp only [q, ↓reduceIte] at e
          exact .inl (.inr (.inr (.inr (.inr (.inr ⟨y, hy, e⟩)))))
    · show updG s5.G d.g v6 _ = _
      rw [q2, updG_updG]
  · obtain ⟨q1, q2⟩ := e6 hf
    obtain ⟨g0, hg0, hgb⟩ := (ok5.on s5.S[i] (List.getElem_mem hl5)).1 (by rw [hs5]; exact hf)
    rw [hs5] at hgb
    have hgv : g0.v = v5 := by
      rw [q1] at hg0
      obtain ⟨y, hy, rfl⟩ := List.mem_map.1 hg0
      by_cases e : y.b = d.g
      · simp [e]
      · simp only [e, ↓reduceIte] at hgb; exact absurd hgb e
    have hA : FAt B w' d.g v6 (wrOne d.f d.wd a c).zs := by have := g6; unfold GAt at this; simp only [wrD, hf] at this; rw [hf]; exact this
    obtain ⟨h6, ok6⟩ := wrote_file h5 ok5 i hl5 (wrD d (wrOne d.f d.wd a c)) (by rw [hs5]; rfl) (by rw [hs5]; rfl) hf g0 hg0 hgb v6 (wrOne d.f d.wd a c).zs hA b6 (by rw [hgv]; exact f6)
    refine ⟨_, v6, h6, ok6, f5.trans (f6.to (fun k e => ?_) (fun k e => ?_)), g6, b6, hset _, e2, e3, e4, e5, fun _ => ⟨?_, q2⟩, fun q => (by rw [hf] at q; cases q)⟩
    · rcases e with e | e
      · exact .inr (.inr (.inr (.inl ⟨s5.S[i], List.getElem_mem hl5, by rw [hs5]; exact e⟩)))
      · exact .inr (.inr (.inr (.inr (.inl ⟨g0, hg0, by rw [hgb, hgv]; exact e⟩))))
    · rcases e with e | e | e | ⟨x, hx, e⟩ | ⟨x, hx, e⟩ | e
      · exact .inl (.inl e)
      · exact .inl (.inr (.inl e))
      · exact .inl (.inr (.inr (.inl e)))
      · rcases mem_set i _ hx with rfl | ⟨j, hj, hne, rfl⟩
        · exact .inr (.inl e)
        · exact .inl (.inr (.inr (.inr (.inl ⟨_, List.getElem_mem hj, e⟩))))
      · obtain ⟨y, hy, rfl⟩ := List.mem_map.1 hx
        by_cases q : y.b = (wrD d (wrOne d.f d.wd a c)).g
        · simp only [q, ↓reduceIte] at e
          exact .inr (.inr e)
        · simp only [q, ↓reduceIte] at e
          exact .inl (.inr (.inr (.inr (.inr (.inl ⟨y, hy, e⟩)))))
      · exact .inl (.inr (.inr (.inr (.inr (.inr e)))))
    · show updF s5.F d.g v6 _ = _
      rw [q1, updF_updF]
theorem VRow.fm {w w' : World} {a : Option Addr} {n : Nat} {xs : List Nat} {T T' : Nat → Prop} (h : VRow w a n xs) (f : Fm w w' T T') (hn : ∀ x : Addr, a = some x → ¬ T x.block) : VRow w' a n xs :=
  ⟨h.ln, h.bd, fun i hi => by
    obtain ⟨b, o, e1, e2⟩ := h.cells i hi
    refine ⟨b, o, e1, ?_⟩
    have hlt : b < w.heap.size := by
      unfold World.cell? at e2
      simp only at e2
      cases hq : w.heap[b]? with
      | none => rw [hq] at e2; simp at e2
      | some ob => exact (Array.getElem?_eq_some_iff.1 hq).1
    rw [World.cell?_of_block (f.block b hlt (hn _ e1))]; exact e2⟩
end Go.Proofs.Ytmohnopegacahaa
