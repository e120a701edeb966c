/- Layer 15: how a shelf of the program's lies in memory. -/
import Derived.Test.YtmohnopegacahaaS15f
import Derived.Test.YtmohnopegacahaaS15g
namespace Go.Proofs.Ytmohnopegacahaa
open Go.RowKit
set_option maxHeartbeats 1000000
set_option maxRecDepth 100000
set_option linter.unusedVariables false

/-- of which type a block's cells are -/
def tyAt (w : World) (k : Nat) : Option TypeId := match w.heap[k]? with
  | some (.cells _ t _) => some t
  | _ => none
theorem ty_box {w : World} {k : Nat} {cs : Array Value} {t : TypeId} {z : Nat × Nat} (h : w.heap[k]? = some (.cells cs t z)) : tyAt w k = some t := by unfold tyAt; rw [h]
theorem ty_row {B E sz : Nat} {w : World} {v : Value} {n k : Nat} {xs : List Value} (h : w.ownsRow B E sz v n xs) (e : v.ownBlock = some k) : tyAt w k = some E := by
  rcases h.2 with ⟨h1, _⟩ | ⟨g, cap, cur, h1, h2, h3, _⟩
  · rw [h1] at e; cases e
  · rw [h1] at e
    simp only [Value.ownBlock, Option.some.injEq] at e
    subst e
    exact ty_box h3
/-- a file, a buffer -/
structure Fl where
  nm : List UInt8
  b : Nat
  v : Value
  zs : List Int
structure Bu where
  b : Nat
  v : Value
  zs : List Int
/-- a shelf -/
structure Sh where
  most : Int
  fm : Option Nat
  F : List Fl
  last : Int
  sv : Value
  S : List Sm
  G : List Bu
def Apart (b1 : Nat) (v1 : Value) (b2 : Nat) (v2 : Value) : Prop := b1 ≠ b2 ∧ ∀ k, v1.ownBlock = some k → v2.ownBlock ≠ some k
structure OkS (s : Sh) : Prop where
  sk : s.S.Pairwise (fun a b => a.k ≠ b.k)
  so : Sorted s.S
  few : s.S.length ≤ 64
  fk : s.F.Pairwise (fun a b => Apart a.b a.v b.b b.v)
  gk : s.G.Pairwise (fun a b => Apart a.b a.v b.b b.v)
  on : ∀ d ∈ s.S, (d.f = true → ∃ f ∈ s.F, f.b = d.g) ∧ (d.f = false → ∃ g ∈ s.G, g.b = d.g)
  last0 : 0 ≤ s.last ∧ s.last ≤ 1000000
  low : ∀ d ∈ s.S, 1 ≤ d.n ∧ d.n ≤ s.last
  most0 : 0 ≤ s.most ∧ s.most ≤ 1048576
/-- how the map's elements are read: a file's block, or none -/
def elF : Value → Option (DataW Unit × List MemPlace)
  | .pointer none => some (.nil, [])
  | .pointer (some ⟨b, 0, none⟩) => some (.lit (.int .i64 (b : Int)), [])
  | _ => none
def encF (o : Option Fl) : DataW Unit := match o with
  | none => .nil
  | some f => .lit (.int .i64 (f.b : Int))
def findF (F : List Fl) (nm : List UInt8) : Option Fl := F.find? (fun f => f.nm == nm)
structure DTie (D : DataW Unit) (F : List Fl) : Prop where
  at_ : ∀ nm, D.atKey (.string nm) .nil = encF (findF F nm)
  has : ∀ nm, Maps.has D (.string nm) = (findF F nm).isSome
  size : Maps.size D = F.length
  nd : F.Pairwise (fun a b => a.nm ≠ b.nm)
def MpAt (B : Nat) (w : World) (fm : Option Nat) (F : List Fl) : Prop := match fm with
  | none => F = []
  | some mb => B ≤ mb ∧ ∃ n D, n ≤ 1000000 ∧ w.ownsMap Try.prog 9 elF mb n D ∧ DTie D F
structure ShAt (B : Nat) (w : World) (m : Nat) (s : Sh) : Prop where
  base : B ≤ m
  box : w.heap[m]? = some (.cells #[.int .i64 s.most, .map s.fm, .int .i64 s.last, s.sv] 70 (0, 0))
  row : w.ownsRow B 76 1 s.sv s.S.length (ptrsV s.S)
  ss : ∀ d ∈ s.S, B ≤ d.k ∧ SBox w d
  fs : ∀ f ∈ s.F, FAt B w f.b f.v f.zs
  gs : ∀ g ∈ s.G, BAt B w g.b g.v g.zs
  mp : MpAt B w s.fm s.F
/-- the blocks of a shelf -/
def TS (m : Nat) (s : Sh) (k : Nat) : Prop := k = m ∨ s.fm = some k ∨ s.sv.ownBlock = some k ∨ (∃ d ∈ s.S, k = d.k) ∨ (∃ f ∈ s.F, TF f.b f.v k) ∨ (∃ g ∈ s.G, TF g.b g.v k)
theorem MpAt.later {B : Nat} {w w' : World} {fm : Option Nat} {F : List Fl} (h : MpAt B w fm F) (hb : Below w.heap.size w w') : MpAt B w' fm F := by
  cases fm with
  | none => exact h
  | some mb =>
    obtain ⟨h0, n, D, h1, h2, h3⟩ := h
    exact ⟨h0, n, D, h1, h2.kept (row := none) ⟨hb.os, hb.tape, hb.output, hb.size, fun i hi _ => hb.block i hi⟩ (by simp), h3⟩
theorem MpAt.fm {B : Nat} {w w' : World} {fm : Option Nat} {F : List Fl} {T T' : Nat → Prop} (h : MpAt B w fm F) (f : Fm w w' T T') (hn : ∀ k, fm = some k → ¬ T k) : MpAt B w' fm F := by
  cases fm with
  | none => exact h
  | some mb =>
    obtain ⟨h0, n, D, h1, h2, h3⟩ := h
    obtain ⟨es, cl, e1, e2⟩ := h2
    refine ⟨h0, n, D, h1, ⟨es, cl, ?_, e2⟩, h3⟩
    rw [f.block mb (Array.getElem?_eq_some_iff.1 e1).1 (hn mb rfl)]; exact e1
theorem ShAt.later {B m : Nat} {w w' : World} {s : Sh} (h : ShAt B w m s) (hb : Below w.heap.size w w') : ShAt B w' m s :=
  ⟨h.base, (hb.block m (Array.getElem?_eq_some_iff.1 h.box).1).trans h.box, own_later h.row hb, fun d hd => ⟨(h.ss d hd).1, (h.ss d hd).2.later hb⟩, fun f hf => (h.fs f hf).later hb, fun g hg => (h.gs g hg).later hb, h.mp.later hb⟩
theorem ShAt.cells {B m : Nat} {w : World} {s : Sh} (h : ShAt B w m s) : w.cell? ⟨m, 0, none⟩ = some (.int .i64 s.most) ∧ w.cell? ⟨m, 1, none⟩ = some (.map s.fm) ∧ w.cell? ⟨m, 2, none⟩ = some (.int .i64 s.last) ∧ w.cell? ⟨m, 3, none⟩ = some s.sv ∧ (∀ j, w.frozen? ⟨m, j, none⟩ = false) := by
  have hh := h.box
  exact ⟨by simp [World.cell?, hh], by simp [World.cell?, hh], by simp [World.cell?, hh], by simp [World.cell?, hh], fun j => by simp [World.frozen?, hh]⟩
theorem ShAt.lt {B m : Nat} {w : World} {s : Sh} (h : ShAt B w m s) : m < w.heap.size := (Array.getElem?_eq_some_iff.1 h.box).1
theorem row_lt {B E sz : Nat} {w : World} {v : Value} {n k : Nat} {xs : List Value} (h : w.ownsRow B E sz v n xs) (e : v.ownBlock = some k) : B ≤ k ∧ k < w.heap.size := by
  rcases h.2 with ⟨h1, _⟩ | ⟨g, cap, cur, h1, h2, h3, _⟩
  · rw [h1] at e; cases e
  · rw [h1] at e
    simp only [Value.ownBlock, Option.some.injEq] at e
    subst e
    exact ⟨h2, (Array.getElem?_eq_some_iff.1 h3).1⟩
theorem ShAt.low {B m : Nat} {w : World} {s : Sh} (h : ShAt B w m s) : ∀ k, TS m s k → B ≤ k ∧ k < w.heap.size := by
  rintro k (rfl | e | e | ⟨d, hd, rfl⟩ | ⟨f, hf, e⟩ | ⟨g, hg, e⟩)
  · exact ⟨h.base, h.lt⟩
  · have := h.mp
    rw [e] at this
    obtain ⟨h0, n, D, h1, h2, h3⟩ := this
    exact ⟨h0, h2.lt⟩
  · exact row_lt h.row e
  · exact ⟨(h.ss d hd).1, (h.ss d hd).2.lt⟩
  · have := h.fs f hf
    rcases e with rfl | e
    · exact ⟨this.base, (Array.getElem?_eq_some_iff.1 this.box).1⟩
    · exact row_lt this.row e
  · have := h.gs g hg
    rcases e with rfl | e
    · exact ⟨this.base, (Array.getElem?_eq_some_iff.1 this.box).1⟩
    · exact row_lt this.row e
/-- the map's block is no row of cells -/
theorem map_ty {B : Nat} {w : World} {fm : Option Nat} {F : List Fl} (h : MpAt B w fm F) {k : Nat} (e : fm = some k) : tyAt w k = none := by
  subst e
  obtain ⟨h0, n, D, h1, ⟨es, cl, e1, e2⟩, h3⟩ := h
  unfold tyAt
  rw [e1]
/-- a part of the memory turned that is not the shelf's box, row or map: what must be said anew -/
theorem ShAt.part {B m : Nat} {w w' : World} {s s' : Sh} {X X' : Nat → Prop} (h : ShAt B w m s) (f : Fm w w' X X') (hX : ∀ k, X k → tyAt w k ≠ some 70 ∧ tyAt w k ≠ some 76 ∧ tyAt w k ≠ none)
    (e1 : s'.most = s.most) (e2 : s'.fm = s.fm) (e3 : s'.last = s.last) (e4 : s'.sv = s.sv) (e5 : ptrsV s'.S = ptrsV s.S) (e6 : s'.S.length = s.S.length) (e7 : MpAt B w s.fm s'.F)
    (hs : ∀ d ∈ s'.S, B ≤ d.k ∧ SBox w' d) (hf : ∀ d ∈ s'.F, FAt B w' d.b d.v d.zs) (hg : ∀ d ∈ s'.G, BAt B w' d.b d.v d.zs) : ShAt B w' m s' := by
  refine ⟨h.base, ?_, ?_, hs, hf, hg, ?_⟩
  · rw [e1, e2, e3, e4, f.block m h.lt (fun q => (hX m q).1 (ty_box h.box))]; exact h.box
  · rw [e4, e5, e6]; exact own_fm f h.row (fun k e q => (hX k q).2.1 (ty_row h.row e))
  · rw [e2]; exact e7.fm f (fun k e q => (hX k q).2.2 (map_ty h.mp e))
/-- a stream turned, nothing else -/
theorem ShAt.setS {B m : Nat} {w w' : World} {s : Sh} (h : ShAt B w m s) (ok : OkS s) (i : Nat) (hi : i < s.S.length) (d : Sm) (hk : d.k = s.S[i].k) (hd : StR w d w') : ShAt B w' m { s with S := s.S.set i d } := by
  have hsi := (h.ss _ (List.getElem_mem hi)).2
  have hX : ∀ k, k = d.k → tyAt w k = some 80 := fun k e => by rw [e, hk]; exact ty_box hsi
  refine h.part hd.2 (fun k e => by rw [hX k e]; exact ⟨by decide, by decide, by simp⟩) rfl rfl rfl rfl ?_ (by simp) h.mp ?_ ?_ ?_
  · show ptrsV (s.S.set i d) = ptrsV s.S
    unfold ptrsV
    rw [List.map_set, hk]
    apply List.ext_getElem
    · simp
    · intro j h1 h2
      rw [List.getElem_set]
      split
      · rename_i e; subst e; simp
      · rfl
  · intro x hx
    obtain ⟨j, hj, rfl⟩ := List.getElem_of_mem hx
    have hj2 : j < s.S.length := by simpa using hj
    have hj' : j < (s.S.set i d).length := hj
    show B ≤ (s.S.set i d)[j].k ∧ SBox w' (s.S.set i d)[j]
    rw [List.getElem_set]
    split
    · exact ⟨by rw [hk]; exact (h.ss _ (List.getElem_mem hi)).1, hd.1⟩
    · rename_i e
      have hb := h.ss _ (List.getElem_mem hj2)
      refine ⟨hb.1, ?_⟩
      have hne : s.S[j].k ≠ d.k := by
        rw [hk]
        rcases (show j < i ∨ i < j by omega) with q | q
        · exact List.pairwise_iff_getElem.1 ok.sk j i hj2 hi q
        · exact fun e2 => List.pairwise_iff_getElem.1 ok.sk i j hi hj2 q e2.symm
      have h2 := hb.2
      unfold SBox at h2 ⊢
      rw [hd.2.block _ (Array.getElem?_eq_some_iff.1 h2).1 hne]; exact h2
  · intro f hf
    refine (h.fs f hf).fm hd.2 (fun e => ?_) (fun k e q => ?_)
    · have := hX _ e; rw [ty_box (h.fs f hf).box] at this; exact absurd this (by decide)
    · have := hX _ q; rw [ty_row (h.fs f hf).row e] at this; exact absurd this (by decide)
  · intro g hg
    refine (h.gs g hg).fm hd.2 (fun e => ?_) (fun k e q => ?_)
    · have := hX _ e; rw [ty_box (h.gs g hg).box] at this; exact absurd this (by decide)
    · have := hX _ q; rw [ty_row (h.gs g hg).row e] at this; exact absurd this (by decide)
end Go.Proofs.Ytmohnopegacahaa
