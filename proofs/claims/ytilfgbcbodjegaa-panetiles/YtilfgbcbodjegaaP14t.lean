/- Layer 14, the program: drop. -/
import Derived.Test.YtilfgbcbodjegaaP14s
namespace Go.Proofs.Ytilfgbcbodjegaa
open Go.RowKit
set_option maxHeartbeats 1000000
set_option maxRecDepth 100000
set_option linter.unusedVariables false

/-- a key that is gone is none any more -/
def keyF (gs : List Int) (d : Wd) : Wd := if gs.contains d.key = true then { d with key := 0 } else d
/-- behind a drop -/
def dropS (s : Ps) (gs : List Int) : Ps := { s with L := (keepL gs s.L).map (keyF gs) }
theorem keyF_set (gs : List Int) (K : List Wd) (j : Nat) (hj : j < K.length) : ((K.take (j + 1)).map (keyF gs) ++ K.drop (j + 1)) = if gs.contains K[j].key = true then ((K.take j).map (keyF gs) ++ K.drop j).set j { K[j] with key := 0 } else (K.take j).map (keyF gs) ++ K.drop j := by
  have e1 : K.take (j + 1) = K.take j ++ [K[j]] := by rw [List.take_add_one, List.getElem?_eq_getElem hj]; rfl
  have e2 : K.drop j = K[j] :: K.drop (j + 1) := List.drop_eq_getElem_cons hj
  have hl : ((K.take j).map (keyF gs)).length = j := by rw [List.length_map, List.length_take]; omega
  generalize hD : K.drop j = D at *
  rw [e1, List.map_append, List.append_assoc]
  subst e2
  by_cases h : gs.contains K[j].key = true
  · rw [if_pos h, List.set_append_right _ _ (by omega), hl, Nat.sub_self]
    have : keyF gs K[j] = { K[j] with key := 0 } := by unfold keyF; rw [if_pos h]
    rw [List.map_singleton, this]
    rfl
  · rw [if_neg h]
    have : keyF gs K[j] = K[j] := by unfold keyF; rw [if_neg h]
    simp [this]
theorem GnAt.fm2 {w w' : World} {fc gb gg n c : Nat} {gs : List Int} {T T' : Nat → Prop} (h : GnAt w fc gb gg n c gs) (f : Fm w w' T T') (h1 : ¬ T fc) (h2 : ¬ T gb) (h3 : ¬ T gg) : GnAt w' fc gb gg n c gs :=
  ⟨by rw [f.block fc (Array.getElem?_eq_some_iff.1 h.f).1 h1]; exact h.f, by rw [f.block gb (Array.getElem?_eq_some_iff.1 h.b).1 h2]; exact h.b, own_fm f h.r (fun k e => by simp only [Value.ownBlock, Option.some.injEq] at e; subst e; exact h3), h.ln, h.few, h.so⟩
theorem store_new (w : World) (x v : Value) (t k : Nat) (hk : w.heap.size = k) (hv : v.oneCell' = true) : Sem.run Try.prog (store ⟨k, 0, none⟩ v) (w.alloc (.cells #[x] t)) = .ok () (w.alloc (.cells #[v] t)) := by
  subst hk
  have hh := heap_alloc_new w (.cells #[x] t)
  have hc : (w.alloc (.cells #[x] t)).cell? ⟨w.heap.size, 0, none⟩ = some x := by unfold World.cell?; simp only; rw [hh]; rfl
  have hf : (w.alloc (.cells #[x] t)).frozen? ⟨w.heap.size, 0, none⟩ = false := by unfold World.frozen?; simp only; rw [hh]; simp
  rw [run_store _ _ _ _ _ hv, hc]
  simp only [hf]
  rw [World.setCell_alloc_new]
  rfl
theorem alloc_size (w : World) (o : Obj) : (w.alloc o).heap.size = w.heap.size + 1 := World.size_alloc w o
def DpR (B : Nat) (w : World) (m g c : Nat) (s : Ps) (gs : List Int) (e : Ending) (w' : World) : Prop := e = .returned (.tuple #[]) ∧ PAt B w' m (.slice (some ⟨g, 0, none⟩) (keepL gs s.L).length c) (dropS s gs) ∧ Fm w w' (TP m (.slice (some ⟨g, 0, none⟩) s.L.length c)) (TP m (.slice (some ⟨g, 0, none⟩) (keepL gs s.L).length c))
/-- the state when j windows are looked at -/
def dropK (s : Ps) (gs : List Int) (j : Nat) : Ps := { s with L := ((keepL gs s.L).take j).map (keyF gs) ++ (keepL gs s.L).drop j }
theorem dropK_len (s : Ps) (gs : List Int) (j : Nat) (hj : j ≤ (keepL gs s.L).length) : (dropK s gs j).L.length = (keepL gs s.L).length := by
  simp [dropK]; omega
theorem dropK_at (s : Ps) (gs : List Int) (j : Nat) (hj : j < (keepL gs s.L).length) : (dropK s gs j).L[j]'(by rw [dropK_len s gs j (by omega)]; exact hj) = (keepL gs s.L)[j] := by
  simp only [dropK]
  rw [List.getElem_append_right (by simp; omega)]
  simp [Nat.min_eq_left (Nat.le_of_lt hj)]
theorem dropK_next (s : Ps) (gs : List Int) (j : Nat) (hj : j < (keepL gs s.L).length) : dropK s gs (j + 1) = if gs.contains (keepL gs s.L)[j].key = true then { dropK s gs j with L := (dropK s gs j).L.set j { (keepL gs s.L)[j] with key := 0 } } else dropK s gs j := by
  have := keyF_set gs (keepL gs s.L) j hj
  unfold dropK
  rw [this]
  split <;> rfl
theorem drop_step {B m g c : Nat} {s : Ps} {w : World} {gs : List Int} (j : Nat) (hj : j < (keepL gs s.L).length) (h : PAt B w m (.slice (some ⟨g, 0, none⟩) (keepL gs s.L).length c) (dropK s gs j)) :
    w.cell? ⟨g, j * 8 + 7, none⟩ = some (.int .i64 (keepL gs s.L)[j].key) ∧ w.cell? ⟨m, 4, none⟩ = some (.slice (some ⟨g, 0, none⟩) (keepL gs s.L).length c) ∧ (∀ w1, Below w.heap.size w w1 → gs.contains (keepL gs s.L)[j].key = true → w1.cell? ⟨g, j * 8 + 7, none⟩ = some (.int .i64 (keepL gs s.L)[j].key) ∧ w1.cell? ⟨m, 4, none⟩ = some (.slice (some ⟨g, 0, none⟩) (keepL gs s.L).length c) ∧ w1.frozen? ⟨g, j * 8 + 7, none⟩ = false ∧ Hid (PAt B (w1.setCell ⟨g, j * 8 + 7, none⟩ (.int .i64 0)) m (.slice (some ⟨g, 0, none⟩) (keepL gs s.L).length c) (dropK s gs (j + 1))) ∧ Hid (Fm w (w1.setCell ⟨g, j * 8 + 7, none⟩ (.int .i64 0)) (TP m (.slice (some ⟨g, 0, none⟩) (keepL gs s.L).length c)) (TP m (.slice (some ⟨g, 0, none⟩) (keepL gs s.L).length c)))) ∧ (∀ w1, Below w.heap.size w w1 → gs.contains (keepL gs s.L)[j].key = false → Hid (PAt B w1 m (.slice (some ⟨g, 0, none⟩) (keepL gs s.L).length c) (dropK s gs (j + 1)))) := by
  have hl := dropK_len s gs j (by omega)
  have hnx := dropK_next s gs j hj
  have hjs : j < (dropK s gs j).L.length := by rw [hl]; exact hj
  have hat : (dropK s gs j).L[j]'hjs = (keepL gs s.L)[j] := dropK_at s gs j hj
  obtain ⟨N, hN⟩ : ∃ N, (keepL gs s.L).length = N := ⟨_, rfl⟩
  obtain ⟨d, hd⟩ : ∃ d, (keepL gs s.L)[j] = d := ⟨_, rfl⟩
  rw [hd] at hat hnx
  rw [hd]
  rw [hN] at hl h ⊢
  generalize dropK s gs j = S at *
  subst hl
  have key : ∀ w1, Below w.heap.size w w1 → w1.cell? ⟨g, j * 8 + 7, none⟩ = some (.int .i64 d.key) ∧ w1.cell? ⟨m, 4, none⟩ = some (.slice (some ⟨g, 0, none⟩) S.L.length c) := fun w1 hb => by
    have cc := wrow_cells (h.later hb).row j hjs
    rw [hat] at cc
    exact ⟨cc.2.2.2.2.2.2.2, (h.later hb).cells.2.2.2.2.1⟩
  refine ⟨(key w (Below.refl _ _)).1, (key w (Below.refl _ _)).2, fun w1 hb hc => ?_, fun w1 hb hc => ?_⟩
  · obtain ⟨g1, g2⟩ := (h.later hb).setW j hjs 7 (by omega) (.int .i64 0) { d with key := 0 } (by rw [hat]; rfl)
    rw [if_pos hc] at hnx
    rw [hnx]
    exact ⟨(key w1 hb).1, (key w1 hb).2, wrow_frozen (h.later hb).row _, hidden g1, hidden ((Fm.same hb).trans g2)⟩
  · rw [if_neg (by rw [hc]; simp)] at hnx
    rw [hnx]
    exact hidden (h.later hb)
set_option maxHeartbeats 8000000 in
theorem drop_any {B m g c : Nat} {s : Ps} {w : World} (h : PAt B w m (.slice (some ⟨g, 0, none⟩) s.L.length c) s) (hB : B ≤ w.heap.size) (hfew : s.L.length ≤ 1000) (gg n cc : Nat) (gs : List Int) (hr : w.ownsRow 0 3 1 (.slice (some ⟨gg, 0, none⟩) n cc) n (intsV gs)) (hn : n ≤ 1000) (hso : gs.Pairwise (· ≤ ·)) (hgm : gg ≠ m) (hgg : gg ≠ g) :
    Calls Try.prog 44 #[.pointer (some ⟨m, 0, none⟩), .slice (some ⟨gg, 0, none⟩) n cc] w (DpR B w m g c s gs) := by
  obtain ⟨d0, d1, d2, d3, d4, d5⟩ := h.cells
  have dl := h.lt
  have hgl := (h.row.lt g rfl).2
  have hggl := (hr.lt gg rfl).2
  have hmg : m ≠ g := fun e => h.ne (by rw [e]; rfl)
  have hln : gs.length = n := by have := hr.1; simpa [intsV] using this
  have hmf : ∀ (fn : Fn) (first cap : Array Value) (w : World), (Instr.makeFunc fn first cap).run Try.prog w = .ok (.func fn first cap) w := fun _ _ _ _ => rfl
  have hst : Sem.run Try.prog (store ⟨w.heap.size + 1, 0, none⟩ (.func (.func 67) #[] #[.pointer (some ⟨w.heap.size, 0, none⟩)])) ((w.alloc (.cells #[.slice (some ⟨gg, 0, none⟩) n cc] 33)).alloc (.cells #[.nilFunc] 93)) = .ok () ((w.alloc (.cells #[.slice (some ⟨gg, 0, none⟩) n cc] 33)).alloc (.cells #[.func (.func 67) #[] #[.pointer (some ⟨w.heap.size, 0, none⟩)]] 93)) := store_new _ _ _ _ _ (alloc_size _ _) rfl
  have b1 : Below w.heap.size w (w.alloc (.cells #[.slice (some ⟨gg, 0, none⟩) n cc] 33)) := (Below.refl _ _).alloc (Nat.le_refl _) _
  have b2 : Below w.heap.size w ((w.alloc (.cells #[.slice (some ⟨gg, 0, none⟩) n cc] 33)).alloc (.cells #[.func (.func 67) #[] #[.pointer (some ⟨w.heap.size, 0, none⟩)]] 93)) := b1.alloc (by rw [alloc_size]; omega) _
  have hh1 := heap_alloc_new w (.cells #[.slice (some ⟨gg, 0, none⟩) n cc] 33)
  have hh2 := heap_alloc_new (w.alloc (.cells #[.slice (some ⟨gg, 0, none⟩) n cc] 33)) (.cells #[.func (.func 67) #[] #[.pointer (some ⟨w.heap.size, 0, none⟩)]] 93)
  have hz : (w.alloc (.cells #[.slice (some ⟨gg, 0, none⟩) n cc] 33)).heap.size = w.heap.size + 1 := alloc_size _ _
  rw [hz] at hh2
  have b3 : Below (w.heap.size + 1) (w.alloc (.cells #[.slice (some ⟨gg, 0, none⟩) n cc] 33)) ((w.alloc (.cells #[.slice (some ⟨gg, 0, none⟩) n cc] 33)).alloc (.cells #[.func (.func 67) #[] #[.pointer (some ⟨w.heap.size, 0, none⟩)]] 93)) := by
    have := (Below.refl (w.alloc (.cells #[.slice (some ⟨gg, 0, none⟩) n cc] 33)).heap.size (w.alloc (.cells #[.slice (some ⟨gg, 0, none⟩) n cc] 33))).alloc (Nat.le_refl _) (.cells #[.func (.func 67) #[] #[.pointer (some ⟨w.heap.size, 0, none⟩)]] 93)
    rwa [hz] at this
  have HGN : Hid (GnAt ((w.alloc (.cells #[.slice (some ⟨gg, 0, none⟩) n cc] 33)).alloc (.cells #[.func (.func 67) #[] #[.pointer (some ⟨w.heap.size, 0, none⟩)]] 93)) (w.heap.size + 1) w.heap.size gg n cc gs) := hidden ⟨hh2, by rw [b3.block w.heap.size (by omega)]; exact hh1, own_later hr b2, hln, hn, hso⟩
  have HB2 := hidden b2
  have HP := hidden h
  clear h hr hso b1 b2 b3 hh1 hh2 hz
  go_enter Try.func44, Try.ntmps44
  go_upto_region 2 with fail
  clear hst
  generalize (w.alloc (.cells #[.slice (some ⟨gg, 0, none⟩) n cc] 33)).alloc (.cells #[.func (.func 67) #[] #[.pointer (some ⟨w.heap.size, 0, none⟩)]] 93) = W at *
  have HPW := hidden (HP.out.later HB2.out)
  have HDL := hidden (deleteFunc_any HPW.out.row HGN.out hfew (by omega) (by omega) hgg)
  have HW := hidden (HPW.out.cells)
  clear d0 d1 d2 d3 d4 d5
  obtain ⟨-, -, -, -, d4, d5⟩ := HW.out
  have HKP : Hid (∀ w2, w2.ownsRow B 79 8 (.slice (some ⟨g, 0, none⟩) (keepL gs s.L).length c) (keepL gs s.L).length (wdsV (keepL gs s.L)) → Fm W w2 (fun k => k = g) (fun k => k = g) → (∃ u, w2.cell? ⟨m, 4, none⟩ = some u) ∧ w2.frozen? ⟨m, 4, none⟩ = false) := hidden (fun w2 _ hfm => by
    have hbox := (hfm.block m HPW.out.lt hmg).trans HPW.out.box
    exact ⟨⟨_, by simp [World.cell?, hbox]; rfl⟩, by simp [World.frozen?, hbox]⟩)
  clear HW
  go_upto_region 4 with (first | (go_at_call 69; refine HDL.out.mono ?_; rintro e w2 ⟨rfl, hrow, hfm⟩; obtain ⟨⟨u4, e4⟩, e5⟩ := HKP.out w2 hrow hfm; have HROW := hidden hrow; have HFM := hidden hfm; clear hrow hfm) | fail)
  have hSm : w.heap.size ≠ m ∧ w.heap.size + 1 ≠ m ∧ w.heap.size ≠ g ∧ w.heap.size + 1 ≠ g := by omega
  have hG := HPW.out.grown (HFM.out.to (U := fun k => (Value.slice (some ⟨g, 0, none⟩) s.L.length c).ownBlock = some k) (U' := fun k => (Value.slice (some ⟨g, 0, none⟩) (keepL gs s.L).length c).ownBlock = some k) (fun k e => by rw [e]; rfl) (fun k e => .inl e)) HROW.out
  have hT : ∀ k, TP m (.slice (some ⟨g, 0, none⟩) s.L.length c) k → k = m ∨ k = g := fun k e => by
    rcases e with e | e
    · exact .inl e
    · exact .inr (Option.some.inj e).symm
  have hT2 : ∀ k, TP m (.slice (some ⟨g, 0, none⟩) (keepL gs s.L).length c) k → k = m ∨ k = g := fun k e => by
    rcases e with e | e
    · exact .inl e
    · exact .inr (Option.some.inj e).symm
  have HG3 := hidden (HGN.out.fm2 hG.2 (fun e => by have := hT _ e; omega) (fun e => by have := hT _ e; omega) (fun e => by have := hT _ e; omega))
  have HG4 : Hid (∀ w1 w', GnAt w1 (w.heap.size + 1) w.heap.size gg n cc gs → Fm w1 w' (TP m (.slice (some ⟨g, 0, none⟩) (keepL gs s.L).length c)) (TP m (.slice (some ⟨g, 0, none⟩) (keepL gs s.L).length c)) → GnAt w' (w.heap.size + 1) w.heap.size gg n cc gs) := hidden (fun w1 w' a f => a.fm2 f (fun e => by have := hT2 _ e; omega) (fun e => by have := hT2 _ e; omega) (fun e => by have := hT2 _ e; omega))
  have HP3 : Hid (PAt B (w2.setCell ⟨m, 4, none⟩ (.slice (some ⟨g, 0, none⟩) (keepL gs s.L).length c)) m (.slice (some ⟨g, 0, none⟩) (keepL gs s.L).length c) (dropK s gs 0)) := hidden (by
    have e : dropK s gs 0 = { s with L := keepL gs s.L } := by simp [dropK]
    rw [e]; exact hG.1)
  have HF3 := hidden ((Fm.same HB2.out).trans hG.2)
  have HST : Hid (∀ j (hj : j < (keepL gs s.L).length) w1, PAt B w1 m (.slice (some ⟨g, 0, none⟩) (keepL gs s.L).length c) (dropK s gs j) → _) := hidden (fun j hj w1 h1 => drop_step j hj h1)
  have HFIN : Hid (∀ w', PAt B w' m (.slice (some ⟨g, 0, none⟩) (keepL gs s.L).length c) (dropK s gs (keepL gs s.L).length) → Fm w w' (TP m (.slice (some ⟨g, 0, none⟩) s.L.length c)) (TP m (.slice (some ⟨g, 0, none⟩) (keepL gs s.L).length c)) → DpR B w m g c s gs (.returned (.tuple #[])) w') := hidden (fun w' a b => by
    have e : dropK s gs (keepL gs s.L).length = dropS s gs := by simp [dropK, dropS]
    rw [e] at a
    exact ⟨rfl, a, b⟩)
  have hfewK : (keepL gs s.L).length ≤ 1000 := Nat.le_trans (List.length_filter_le _ _) hfew
  generalize w2.setCell ⟨m, 4, none⟩ (.slice (some ⟨g, 0, none⟩) (keepL gs s.L).length c) = W3 at *
  clear hG hT hT2 HKP HROW HFM HDL HGN HPW HB2 e4 e5 d4 d5 HP
  have HN : ∃ N, Hid ((keepL gs s.L).length = N) := ⟨_, hidden rfl⟩
  obtain ⟨N, HN⟩ := HN
  generalize hV2 : Value.slice (some ⟨g, 0, none⟩) (keepL gs s.L).length c = V2 at *
  rw [HN.out] at hfewK hV2 HFIN
  rw [HN.out]
  subst hV2
  go_loopw [21] (fun i w' => ∃ j : Nat, j ≤ N ∧ i = .int .i64 j ∧ Hid (PAt B w' m (.slice (some ⟨g, 0, none⟩) N c) (dropK s gs j)) ∧ Hid (GnAt w' (w.heap.size + 1) w.heap.size gg n cc gs) ∧ Hid (Fm w w' (TP m (.slice (some ⟨g, 0, none⟩) s.L.length c)) (TP m (.slice (some ⟨g, 0, none⟩) N c)))) (fun i _ => N - (intOf i).toNat)
  case atStart => exact ⟨0, by omega, rfl, HP3, HG3, HF3⟩
  case round =>
    clear HP3 HG3 HF3
    obtain ⟨j, hj, rfl, HP, HG, HF⟩ := hrel
    by_cases hlt : j < N
    · have hjl : j < (keepL gs s.L).length := by rw [HN.out]; exact hlt
      have l1 : (j : Int) < N := by omega
      have l2 : (0 : Int) ≤ j := by omega
      obtain ⟨c7, c4, y1, y2⟩ := HST.out j hjl wr HP.out
      obtain ⟨X, HX⟩ : ∃ X, Hid ((keepL gs s.L)[j].key = X) := ⟨_, hidden rfl⟩
      rw [HX.out] at c7 y1 y2
      have HD1 : Hid (∀ wx, Below wr.heap.size wr wx → Calls Try.prog 67 #[.int .i64 X, .pointer (some ⟨w.heap.size, 0, none⟩)] wx fun e w' => e = .returned (.bool (gs.contains X)) ∧ Below wx.heap.size wx w') := hidden (fun wx hb => drop1_any (HG.out.later hb) X)
      have hfc : wr.cell? ⟨w.heap.size + 1, 0, none⟩ = some (.func (.func 67) #[] #[.pointer (some ⟨w.heap.size, 0, none⟩)]) := by
        unfold World.cell?
        simp only
        rw [HG.out.f]
        rfl
      have HY1 := hidden y1
      have HY2 := hidden y2
      obtain ⟨D, hD⟩ : ∃ D, gs.contains X = D := ⟨_, rfl⟩
      rw [hD] at HY1 HY2 HD1
      clear hD y1 y2
      have HB0 := hidden (Below.refl wr.heap.size wr)
      have hgr := (HP.out.row.lt g rfl).2
      have hmr := HP.out.lt
      have hfr := (Array.getElem?_eq_some_iff.1 HG.out.f).1
      have HC5 : Hid (∀ w1, Below wr.heap.size wr w1 → w1.cell? ⟨w.heap.size + 1, 0, none⟩ = some (.func (.func 67) #[] #[.pointer (some ⟨w.heap.size, 0, none⟩)]) ∧ w1.cell? ⟨m, 4, none⟩ = some (.slice (some ⟨g, 0, none⟩) N c) ∧ w1.cell? ⟨g, j * 8 + 7, none⟩ = some (.int .i64 X)) := hidden (fun w1 hb => ⟨by rw [World.cell?_of_block (hb.block _ hfr)]; exact hfc, by rw [World.cell?_of_block (hb.block _ hmr)]; exact c4, by rw [World.cell?_of_block (hb.block _ hgr)]; exact c7⟩)
      go_upto_region 6 with fail
      cases D with
      | true =>
        have HZ : Hid (∀ w1, Below wr.heap.size wr w1 → _) := hidden (fun w1 hb => HY1.out w1 hb rfl)
        clear HY1 HY2
        go_region_held3 (fun w' => w'.cell? ⟨w.heap.size + 1, 0, none⟩ = some (.func (.func 67) #[] #[.pointer (some ⟨w.heap.size, 0, none⟩)]) ∧ w'.cell? ⟨m, 4, none⟩ = some (.slice (some ⟨g, 0, none⟩) N c) ∧ w'.cell? ⟨g, j * 8 + 7, none⟩ = some (.int .i64 X)) (first | assumption | exact ⟨by assumption, by assumption, by assumption⟩ | go_keep) (first
          | (go_at_call 67; refine (HD1.out _ (by first | exact HB0.out | exact HB0.out.drew)).mono ?_; rintro e w5 ⟨rfl, hb5⟩; have HB5 : Hid (Below wr.heap.size wr w5) := hidden (by first | exact hb5 | exact (HB0.out.drew).trans (hb5.mono HB0.out.drew.size)); clear hb5; obtain ⟨k0, k1, k2⟩ := HC5.out w5 HB5.out)
          | fail)
        all_goals
          have HB6 : Hid (Below wr.heap.size wr w5) := HB5
          obtain ⟨z1, z2, z3, HP6, HF6⟩ := HZ.out w5 HB6.out
          go_wp2
          have HG6 := hidden (HG4.out _ _ HG.out HF6.out)
          go_roundw
          case rel => exact ⟨j + 1, by omega, by first | rfl | go_num, HP6, HG6, hidden (HF.out.trans HF6.out)⟩
          case measure => simp [intOf]; omega
      | false =>
        have HZ : Hid (∀ w1, Below wr.heap.size wr w1 → _) := hidden (fun w1 hb => HY2.out w1 hb rfl)
        clear HY1 HY2
        go_region_held3 (fun w' => w'.cell? ⟨w.heap.size + 1, 0, none⟩ = some (.func (.func 67) #[] #[.pointer (some ⟨w.heap.size, 0, none⟩)]) ∧ w'.cell? ⟨m, 4, none⟩ = some (.slice (some ⟨g, 0, none⟩) N c) ∧ w'.cell? ⟨g, j * 8 + 7, none⟩ = some (.int .i64 X)) (first | assumption | exact ⟨by assumption, by assumption, by assumption⟩ | go_keep) (first
          | (go_at_call 67; refine (HD1.out _ (by first | exact HB0.out | exact HB0.out.drew)).mono ?_; rintro e w5 ⟨rfl, hb5⟩; have HB5 : Hid (Below wr.heap.size wr w5) := hidden (by first | exact hb5 | exact (HB0.out.drew).trans (hb5.mono HB0.out.drew.size)); clear hb5; obtain ⟨k0, k1, k2⟩ := HC5.out w5 HB5.out)
          | fail)
        all_goals
          have HB6 : Hid (Below wr.heap.size wr w5) := HB5
          have HP6 := hidden (HZ.out w5 HB6.out).out
          go_wp2
          go_roundw
          case rel => exact ⟨j + 1, by omega, by first | rfl | go_num, HP6, hidden (HG.out.later HB6.out), hidden (HF.out.trans (Fm.same HB6.out))⟩
          case measure => simp [intOf]; omega
    · obtain rfl : j = N := by omega
      have l1 : ¬ ((j : Int) < j) := by omega
      have HE := hidden (HFIN.out _ HP.out HF.out)
      clear HST HFIN HG4
      go_wp2
      refine bodyPost_end (v := .tuple #[]) (by simp [results, Try.results44, go_sem]) rfl HE.out
end Go.Proofs.Ytilfgbcbodjegaa
