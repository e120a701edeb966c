/- Layer 14, the program: one window where another was; the children of a pair. -/
import Derived.Test.YtilfgbcbodjegaaP14d
import Derived.Test.YtilfgbcbodjegaaShelf14
namespace Go.Proofs.Ytilfgbcbodjegaa
open Go.RowKit
set_option maxHeartbeats 1000000
set_option maxRecDepth 100000
set_option linter.unusedVariables false

/-- the windows, one of them turned -/
def updW (L : List Wd) (x : Int) (f : Wd → Wd) : List Wd := L.map (fun d => if d.n = x then f d else d)
theorem upn (f : Wd → Wd) (hf : ∀ d, (f d).n = d.n) (x : Int) (d : Wd) : (if d.n = x then f d else d).n = d.n := by
  by_cases h : d.n = x
  · rw [if_pos h]; exact hf d
  · rw [if_neg h]
theorem upd_set {L : List Wd} (h : Sorted L) {i : Nat} (hi : i < L.length) {x : Int} (hx : L[i].n = x) (f : Wd → Wd) : L.set i (f L[i]) = updW L x f := by
  apply List.ext_getElem
  · simp [updW]
  · intro j h1 h2
    simp only [List.length_set] at h1
    simp only [updW, List.getElem_map]
    rw [List.getElem_set]
    by_cases e : i = j
    · subst e
      rw [if_pos rfl, if_pos hx]
    · rw [if_neg e, if_neg (fun q => e (h.inj hi h1 (by rw [hx, q])))]
theorem upd_len (L : List Wd) (x : Int) (f : Wd → Wd) : (updW L x f).length = L.length := by simp [updW]
theorem upd_sorted {L : List Wd} (h : Sorted L) (x : Int) (f : Wd → Wd) (hf : ∀ d, (f d).n = d.n) : Sorted (updW L x f) := by
  refine ⟨fun i j hij hj hi => ?_⟩
  have hj' : j < L.length := by rw [upd_len] at hj; exact hj
  have hi' : i < L.length := by rw [upd_len] at hi; exact hi
  have := h.rise i j hij hj' hi'
  simp only [updW, List.getElem_map]
  have e := upn f hf x
  rw [e, e]
  exact this
theorem upd_of {L : List Wd} (x y : Int) (f : Wd → Wd) (hf : ∀ d, (f d).n = d.n) (hy : hasW L y) : ofW (updW L x f) y = if y = x then f (ofW L y) else ofW L y := by
  induction L with
  | nil => obtain ⟨d, hd, _⟩ := hy; simp at hd
  | cons d L ih =>
    have e := upn f hf x d
    by_cases q : d.n = y
    · have h1 : ofW (d :: L) y = d := by unfold ofW; simp [q]
      have h2 : ofW (updW (d :: L) x f) y = if d.n = x then f d else d := by
        unfold ofW updW
        rw [List.map_cons, List.find?_cons_of_pos (by rw [beq_iff_eq, e]; exact q)]
        rfl
      rw [h1, h2, q]
    · have h1 : ofW (d :: L) y = ofW L y := by unfold ofW; rw [List.find?_cons_of_neg (by simp [q])]
      have h2 : ofW (updW (d :: L) x f) y = ofW (updW L x f) y := by
        unfold ofW updW
        rw [List.map_cons, List.find?_cons_of_neg (by rw [beq_iff_eq, e]; exact q)]
      rw [h1, h2]
      refine ih ?_
      obtain ⟨d', hd, e'⟩ := hy
      rcases List.mem_cons.1 hd with rfl | hd
      · exact absurd e' q
      · exact ⟨d', hd, e'⟩
theorem upd_has {L : List Wd} (x y : Int) (f : Wd → Wd) (hf : ∀ d, (f d).n = d.n) : hasW (updW L x f) y ↔ hasW L y := by
  have e := upn f hf x
  constructor
  · rintro ⟨d, hd, h⟩
    obtain ⟨d', hd', rfl⟩ := List.mem_map.1 hd
    exact ⟨d', hd', by rw [← h, e]⟩
  · rintro ⟨d, hd, h⟩
    exact ⟨_, List.mem_map.2 ⟨d, hd, rfl⟩, by rw [e]; exact h⟩
theorem upd_ok {s : Ps} (h : OkP s) (x : Int) (f : Wd → Wd) (hf : ∀ d, (f d).n = d.n) : OkP { s with L := updW s.L x f } := by
  refine ⟨upd_sorted h.so x f hf, by rw [upd_len]; exact h.few, fun d hd => ?_⟩
  obtain ⟨d', hd', e⟩ := (upd_has x d.n f hf).1 ⟨d, hd, rfl⟩
  have := h.pos d' hd'
  omega
theorem has_ix {L : List Wd} {x : Int} (h : hasW L x) : ∃ i, ∃ hi : i < L.length, L[i].n = x := by
  obtain ⟨d, hd, e⟩ := h
  obtain ⟨i, hi, rfl⟩ := List.getElem_of_mem hd
  exact ⟨i, hi, e⟩
def parF (q : Int) (d : Wd) : Wd := { d with p := q }
/-- a child is another one -/
def kidF (old new : Int) (d : Wd) : Wd := if d.a = old then { d with a := new } else if d.b = old then { d with b := new } else d
theorem parF_n (q : Int) (d : Wd) : (parF q d).n = d.n := rfl
theorem kidF_n (o n : Int) (d : Wd) : (kidF o n d).n = d.n := by
  unfold kidF
  by_cases h1 : d.a = o
  · rw [if_pos h1]
  · rw [if_neg h1]
    by_cases h2 : d.b = o
    · rw [if_pos h2]
    · rw [if_neg h2]
theorem kidF_cells (old new : Int) (d : Wd) (ix : Nat) (h : d.a = old ∨ d.b = old) (hix : ix = if d.a = old then 0 else 1) : wdV (kidF old new d) = (wdV d).set (3 + ix) (.int .i64 new) := by
  unfold kidF
  subst hix
  by_cases e : d.a = old
  · rw [if_pos e, if_pos e]; rfl
  · rw [if_neg e, if_neg e, if_pos (h.resolve_left e)]; rfl
/-- number is where old was -/
def putS (s : Ps) (old number : Int) : Ps :=
  if (ofW s.L old).p = 0 then { s with L := updW s.L number (parF 0), root := number }
  else { s with L := updW (updW s.L number (parF (ofW s.L old).p)) (ofW s.L old).p (kidF old number) }
/-- a store of a parent -/
theorem PAt.setPar {B : Nat} {w : World} {m g c : Nat} {s : Ps} (h : PAt B w m (.slice (some ⟨g, 0, none⟩) s.L.length c) s) (ho : OkP s) (i : Nat) (hi : i < s.L.length) (x : Int) (hx : s.L[i].n = x) (q : Int) :
    PAt B (w.setCell ⟨g, i * 8 + 2, none⟩ (.int .i64 q)) m (.slice (some ⟨g, 0, none⟩) s.L.length c) { s with L := updW s.L x (parF q) } ∧ Fm w (w.setCell ⟨g, i * 8 + 2, none⟩ (.int .i64 q)) (TP m (.slice (some ⟨g, 0, none⟩) s.L.length c)) (TP m (.slice (some ⟨g, 0, none⟩) s.L.length c)) := by
  have := h.setW i hi 2 (by omega) (.int .i64 q) (parF q s.L[i]) rfl
  rw [upd_set ho.so hi hx] at this
  exact this
theorem drew_fin {B m : Nat} {v : Value} {s : Ps} {w w1 : World} {T T' : Nat → Prop} (h : PAt B w1 m v s ∧ Fm w w1 T T') : PAt B w1.drew m v s ∧ Fm w w1.drew T T' := ⟨h.1.later (Below.refl _ _).drew, h.2.trans (Fm.same (Below.refl _ _).drew)⟩
theorem idx2 (a b x : Int) (h : a = x ∨ b = x) : Lib.idxOf ([a, b].take 2) x = if a = x then 0 else 1 := by
  show Lib.idxFrom [a, b] x 0 = _
  by_cases e : a = x
  · rw [if_pos e]; simp [Lib.idxFrom, e]
  · rw [if_neg e]
    have : b = x := h.resolve_left e
    simp [Lib.idxFrom, e, this]
set_option maxHeartbeats 8000000 in
theorem putAt_any {B m : Nat} {v : Value} {s : Ps} {w : World} (h : PAt B w m v s) (ho : OkP s) (old number : Int) (hnum : hasW s.L number) (hq : (ofW s.L old).p ≠ 0 → hasW s.L (ofW s.L old).p ∧ ((ofW s.L (ofW s.L old).p).a = old ∨ (ofW s.L (ofW s.L old).p).b = old)) :
    Calls Try.prog 40 #[.pointer (some ⟨m, 0, none⟩), .int .i64 old, .int .i64 number] w fun e w' => e = .returned (.tuple #[]) ∧ PAt B w' m v (putS s old number) ∧ Fm w w' (TP m v) (TP m v) := by
  obtain ⟨i, hi, hx⟩ := has_ix hnum
  obtain ⟨g, c, hv, hBg, hgw, hlc, hcm⟩ := wrow_pos h.row (by omega)
  subst hv
  obtain ⟨q, hqe⟩ : ∃ q, (ofW s.L old).p = q := ⟨_, rfl⟩
  have HPar := hidden (parent_any h ho old)
  rw [hqe] at HPar hq
  have HA : Hid (∀ w1, Below w.heap.size w w1 → Calls Try.prog 36 #[.pointer (some ⟨m, 0, none⟩), .int .i64 number] w1 fun e w' => e = .returned (.pointer (some ⟨g, i * 8, none⟩)) ∧ Below w1.heap.size w1 w') := hidden (fun w1 hb => at_some (h.later hb) ho.so (by have := ho.few; omega) i hi g c rfl number hx)
  have HC : Hid (∀ w1, Below w.heap.size w w1 → w1.cell? ⟨g, i * 8 + 2, none⟩ = some (.int .i64 s.L[i].p) ∧ w1.frozen? ⟨g, i * 8 + 2, none⟩ = false ∧ w1.cell? ⟨m, 2, none⟩ = some (.int .i64 s.root) ∧ w1.frozen? ⟨m, 2, none⟩ = false) := hidden (fun w1 hb => ⟨(wrow_cells (h.later hb).row i hi).2.2.1, wrow_frozen (h.later hb).row _, (h.later hb).cells.2.2.1, (h.later hb).cells.2.2.2.2.2 2⟩)
  have hmg : m ≠ g := fun e => h.ne (by rw [e]; rfl)
  have HS1 : Hid (∀ w1, Below w.heap.size w w1 → PAt B (w1.setCell ⟨g, i * 8 + 2, none⟩ (.int .i64 q)) m (.slice (some ⟨g, 0, none⟩) s.L.length c) { s with L := updW s.L number (parF q) } ∧ Fm w (w1.setCell ⟨g, i * 8 + 2, none⟩ (.int .i64 q)) (TP m (.slice (some ⟨g, 0, none⟩) s.L.length c)) (TP m (.slice (some ⟨g, 0, none⟩) s.L.length c))) := hidden (fun w1 hb => by
    obtain ⟨g1, g2⟩ := (h.later hb).setPar ho i hi number hx q
    exact ⟨g1, (Fm.same hb).trans g2⟩)
  have ho1 : OkP { s with L := updW s.L number (parF q) } := upd_ok ho number _ (parF_n q)
  by_cases h0 : q = 0
  · have HFIN : Hid (∀ w1, PAt B w1 m (.slice (some ⟨g, 0, none⟩) s.L.length c) { s with L := updW s.L number (parF q) } → Fm w w1 (TP m (.slice (some ⟨g, 0, none⟩) s.L.length c)) (TP m (.slice (some ⟨g, 0, none⟩) s.L.length c)) → PAt B (w1.setCell ⟨m, 2, none⟩ (.int .i64 number)) m (.slice (some ⟨g, 0, none⟩) s.L.length c) (putS s old number) ∧ Fm w (w1.setCell ⟨m, 2, none⟩ (.int .i64 number)) (TP m (.slice (some ⟨g, 0, none⟩) s.L.length c)) (TP m (.slice (some ⟨g, 0, none⟩) s.L.length c))) := hidden (fun w1 h1 f1 => by
      obtain ⟨g1, g2⟩ := h1.set2 number
      have e : putS s old number = { s with L := updW s.L number (parF q), root := number } := by
        unfold putS
        rw [if_pos (by rw [hqe]; exact h0), h0]
      rw [e]
      exact ⟨g1, f1.trans g2⟩)
    generalize hV : Value.slice (some ⟨g, 0, none⟩) s.L.length c = V at *
    generalize hPS : putS s old number = PS at *
    have q0 : (q == 0) = true := by simp [h0]
    clear h ho hqe hx hnum ho1 hq hV hPS h0
    go_enter Try.func40, Try.ntmps40
    go_upto_region 2 with (first | (go_at_call 21; refine HPar.out.mono ?_; rintro e w1 ⟨rfl, hb1⟩; have HB1 := hidden hb1; clear hb1) | (go_at_call 36; refine (HA.out _ HB1.out).mono ?_; rintro e w2 ⟨rfl, hb2⟩; have HB2 := hidden (HB1.out.trans (hb2.mono HB1.out.size)); obtain ⟨k1, k2, k3, k4⟩ := HC.out _ HB2.out; clear hb2) | fail)
    obtain ⟨HP2, HF2⟩ := (show Hid _ ∧ Hid _ from ⟨hidden (HS1.out _ HB2.out).1, hidden (HS1.out _ HB2.out).2⟩)
    clear HS1 HA HPar HC
    go_wp2
    refine bodyPost_ret (v := .tuple #[]) (by simp [results, Try.results40, go_sem]) rfl ⟨rfl, HFIN.out _ HP2.out HF2.out⟩
  · obtain ⟨hqh, hk⟩ := hq h0
    obtain ⟨j, hj, hjx⟩ := has_ix ((upd_has number q (parF q) (parF_n q)).2 hqh)
    have hjl : j < s.L.length := by rw [upd_len] at hj; exact hj
    have HAQ : Hid (∀ w1 w2, PAt B w1 m (.slice (some ⟨g, 0, none⟩) s.L.length c) { s with L := updW s.L number (parF q) } → Below w1.heap.size w1 w2 → Calls Try.prog 36 #[.pointer (some ⟨m, 0, none⟩), .int .i64 q] w2 fun e w' => e = .returned (.pointer (some ⟨g, j * 8, none⟩)) ∧ Below w2.heap.size w2 w') := hidden (fun w1 w2 h1 hb => at_some (h1.later hb) ho1.so (by have := ho1.few; omega) j hj g c (by rw [upd_len]) q hjx)
    have hof : ofW (updW s.L number (parF q)) q = (updW s.L number (parF q))[j] := ofW_at ho1.so hj hjx
    have hofa : (updW s.L number (parF q))[j].a = (ofW s.L q).a ∧ (updW s.L number (parF q))[j].b = (ofW s.L q).b := by
      rw [← hof, upd_of number q _ (parF_n q) hqh]
      split <;> exact ⟨rfl, rfl⟩
    obtain ⟨KA, hKA⟩ : ∃ KA, (ofW s.L q).a = KA := ⟨_, rfl⟩
    obtain ⟨KB, hKB⟩ : ∃ KB, (ofW s.L q).b = KB := ⟨_, rfl⟩
    rw [hKA, hKB] at hk hofa
    obtain ⟨ix, hix⟩ : ∃ ix : Nat, ix = if KA = old then 0 else 1 := ⟨_, rfl⟩
    have HCQ : Hid (∀ w1 w2, PAt B w1 m (.slice (some ⟨g, 0, none⟩) s.L.length c) { s with L := updW s.L number (parF q) } → Below w1.heap.size w1 w2 → w2.cell? ⟨g, j * 8 + 3, none⟩ = some (.int .i64 KA) ∧ w2.cell? ⟨g, j * 8 + 4, none⟩ = some (.int .i64 KB) ∧ w2.frozen? ⟨g, j * 8 + 3 + ix, none⟩ = false) := hidden (fun w1 w2 h1 hb => by
      have r := (h1.later hb).row
      simp only [upd_len] at r
      have r2 : w2.ownsRow B 79 8 (.slice (some ⟨g, 0, none⟩) (updW s.L number (parF q)).length c) (updW s.L number (parF q)).length (wdsV (updW s.L number (parF q))) := by rw [upd_len]; exact r
      have cc := wrow_cells r2 j hj
      rw [hofa.1, hofa.2] at cc
      exact ⟨cc.2.2.2.1, cc.2.2.2.2.1, wrow_frozen r2 _⟩)
    have HIX : Hid (∀ w2 : World, w2.cell? ⟨g, j * 8 + 3, none⟩ = some (.int .i64 KA) → w2.cell? ⟨g, j * 8 + 4, none⟩ = some (.int .i64 KB) → Calls Try.prog 62 #[.slice (some ⟨g, j * 8 + 3, none⟩) 2 2, .int .i64 old] w2 fun e w' => e = .returned (.int .i64 ix) ∧ w' = w2) := hidden (fun w2 c1 c2 => by
      have := Try.slices_Index_int g (j * 8 + 3) 2 2 [KA, KB] old w2 (by simp) (by omega) (fun k hk => by
        rcases (show k = 0 ∨ k = 1 by simp at hk; omega) with rfl | rfl
        · exact c1
        · exact c2)
      rw [idx2 KA KB old hk] at this
      rw [hix]
      by_cases e : KA = old
      · rw [if_pos e] at this ⊢; exact this
      · rw [if_neg e] at this ⊢; exact this)
    have HFIN : Hid (∀ w1 w2, PAt B w1 m (.slice (some ⟨g, 0, none⟩) s.L.length c) { s with L := updW s.L number (parF q) } → Fm w w1 (TP m (.slice (some ⟨g, 0, none⟩) s.L.length c)) (TP m (.slice (some ⟨g, 0, none⟩) s.L.length c)) → Below w1.heap.size w1 w2 → PAt B (w2.setCell ⟨g, j * 8 + 3 + ix, none⟩ (.int .i64 number)) m (.slice (some ⟨g, 0, none⟩) s.L.length c) (putS s old number) ∧ Fm w (w2.setCell ⟨g, j * 8 + 3 + ix, none⟩ (.int .i64 number)) (TP m (.slice (some ⟨g, 0, none⟩) s.L.length c)) (TP m (.slice (some ⟨g, 0, none⟩) s.L.length c))) := hidden (fun w1 w2 h1 f1 hb => by
      have h2 := h1.later hb
      have e : putS s old number = { s with L := updW (updW s.L number (parF q)) q (kidF old number) } := by
        unfold putS
        rw [if_neg (by rw [hqe]; exact h0), hqe]
      have hl : (updW s.L number (parF q)).length = s.L.length := upd_len _ _ _
      have h3 : PAt B w2 m (.slice (some ⟨g, 0, none⟩) ({ s with L := updW s.L number (parF q) } : Ps).L.length c) { s with L := updW s.L number (parF q) } := by
        show PAt B w2 m (.slice (some ⟨g, 0, none⟩) (updW s.L number (parF q)).length c) _
        rw [hl]; exact h2
      have hd : wdV (kidF old number (updW s.L number (parF q))[j]) = (wdV (updW s.L number (parF q))[j]).set (3 + ix) (.int .i64 number) := kidF_cells old number _ ix (by rw [hofa.1, hofa.2]; exact hk) (by rw [hofa.1]; exact hix)
      have := h3.setW j hj (3 + ix) (by rw [hix]; split <;> omega) (.int .i64 number) _ hd
      rw [upd_set ho1.so hj hjx, show j * 8 + (3 + ix) = j * 8 + 3 + ix by omega] at this
      obtain ⟨g1, g2⟩ := this
      simp only [hl] at g1 g2
      rw [e]
      exact ⟨g1, (f1.trans (Fm.same hb)).trans g2⟩)
    have hix2 : ix < 2 := by rw [hix]; split <;> omega
    generalize hV : Value.slice (some ⟨g, 0, none⟩) s.L.length c = V at *
    generalize hPS : putS s old number = PS at *
    have q0 : (q == 0) = false := by simp [h0]
    clear h ho hqe hx hnum ho1 hq hV hPS h0 hqh hk hjx hof hofa hKA hKB hix
    go_enter Try.func40, Try.ntmps40
    go_upto_region 2 with (first | (go_at_call 21; refine HPar.out.mono ?_; rintro e w1 ⟨rfl, hb1⟩; have HB1 := hidden hb1; clear hb1) | (go_at_call 36; refine (HA.out _ HB1.out).mono ?_; rintro e w2 ⟨rfl, hb2⟩; have HB2 := hidden (HB1.out.trans (hb2.mono HB1.out.size)); obtain ⟨k1, k2, k3, k4⟩ := HC.out _ HB2.out; clear hb2) | fail)
    obtain ⟨HP2, HF2⟩ := (show Hid _ ∧ Hid _ from ⟨hidden (HS1.out _ HB2.out).1, hidden (HS1.out _ HB2.out).2⟩)
    clear HS1 HA HPar HC k1 k2 k3 k4
    generalize w2.setCell ⟨g, i * 8 + 2, none⟩ (.int .i64 q) = W at *
    go_upto_region 5 with (first | (go_at_call 36; refine (HAQ.out _ _ HP2.out (Below.refl _ _)).mono ?_; rintro e w3 ⟨rfl, hb3⟩; have HB3 := hidden hb3; obtain ⟨k1, k2, k3⟩ := HCQ.out _ _ HP2.out HB3.out; clear hb3) | fail)
    rcases (show ix = 0 ∨ ix = 1 by omega) with rfl | rfl
    · have HI3 : Hid (∀ wx, Below w3.heap.size w3 wx → Calls Try.prog 62 #[.slice (some ⟨g, j * 8 + 3, none⟩) 2 2, .int .i64 old] wx fun e w' => e = .returned (.int .i64 0) ∧ w' = wx) := hidden (fun wx hb => by
        obtain ⟨x1, x2, _⟩ := HCQ.out _ wx HP2.out (HB3.out.trans (hb.mono HB3.out.size))
        exact HIX.out wx x1 x2)
      have HFD : Hid (∀ wx, Below w3.heap.size w3 wx → PAt B (wx.setCell ⟨g, j * 8 + 3, none⟩ (.int .i64 number)) m V PS ∧ Fm w (wx.setCell ⟨g, j * 8 + 3, none⟩ (.int .i64 number)) (TP m V) (TP m V)) := hidden (fun wx hb => HFIN.out _ wx HP2.out HF2.out (HB3.out.trans (hb.mono HB3.out.size)))
      have k4 : w3.frozen? ⟨g, j * 8 + 3, none⟩ = false := k3
      clear HFIN HIX HCQ HAQ k3 HP2 HF2 HB3 hix2
      go_region_held3 (fun w' => True) (trivial) (first | (go_at_call 62; refine (HI3.out _ (by first | exact (Below.refl _ _).drew | exact Below.refl _ _)).mono ?_; rintro e w9 ⟨rfl, e9⟩; rw [e9]; clear e9) | fail)
      all_goals (try go_wp2)
      all_goals refine bodyPost_end (v := .tuple #[]) (by simp [results, Try.results40, go_sem]) rfl ⟨rfl, drew_fin (HFD.out _ (by first | exact (Below.refl _ _).drew | exact Below.refl _ _))⟩
    · have HI3 : Hid (∀ wx, Below w3.heap.size w3 wx → Calls Try.prog 62 #[.slice (some ⟨g, j * 8 + 3, none⟩) 2 2, .int .i64 old] wx fun e w' => e = .returned (.int .i64 1) ∧ w' = wx) := hidden (fun wx hb => by
        obtain ⟨x1, x2, _⟩ := HCQ.out _ wx HP2.out (HB3.out.trans (hb.mono HB3.out.size))
        exact HIX.out wx x1 x2)
      have HFD : Hid (∀ wx, Below w3.heap.size w3 wx → PAt B (wx.setCell ⟨g, j * 8 + 4, none⟩ (.int .i64 number)) m V PS ∧ Fm w (wx.setCell ⟨g, j * 8 + 4, none⟩ (.int .i64 number)) (TP m V) (TP m V)) := hidden (fun wx hb => HFIN.out _ wx HP2.out HF2.out (HB3.out.trans (hb.mono HB3.out.size)))
      have k4 : w3.frozen? ⟨g, j * 8 + 4, none⟩ = false := k3
      clear HFIN HIX HCQ HAQ k3 HP2 HF2 HB3 hix2
      go_region_held3 (fun w' => True) (trivial) (first | (go_at_call 62; refine (HI3.out _ (by first | exact (Below.refl _ _).drew | exact Below.refl _ _)).mono ?_; rintro e w9 ⟨rfl, e9⟩; rw [e9]; clear e9) | fail)
      all_goals (try go_wp2)
      all_goals refine bodyPost_end (v := .tuple #[]) (by simp [results, Try.results40, go_sem]) rfl ⟨rfl, drew_fin (HFD.out _ (by first | exact (Below.refl _ _).drew | exact Below.refl _ _))⟩
end Go.Proofs.Ytilfgbcbodjegaa
