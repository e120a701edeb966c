/- Layer 14: the windows behind a Close. -/
import Derived.Test.YtilfgbcbodjegaaI14b
import Derived.Test.YtilfgbcbodjegaaP14v
import Derived.Test.YtilfgbcbodjegaaR14b
namespace Go.Proofs.Ytilfgbcbodjegaa
open Go.RowKit
set_option maxHeartbeats 1000000
set_option maxRecDepth 100000
set_option linter.unusedVariables false

theorem sorted_pw {L : List Wd} : Sorted L ↔ L.Pairwise (fun a b => a.n < b.n) := by
  constructor
  · intro h
    exact List.pairwise_iff_getElem.2 (fun i j hi hj hij => h.rise i j hij hj hi)
  · intro h
    exact ⟨fun i j hij hj hi => List.pairwise_iff_getElem.1 h i j hi hj hij⟩
theorem sorted_filter {L : List Wd} (h : Sorted L) (p : Wd → Bool) : Sorted (L.filter p) := sorted_pw.2 ((sorted_pw.1 h).sublist List.filter_sublist)
theorem sorted_map {L : List Wd} (h : Sorted L) (f : Wd → Wd) (hf : ∀ d, (f d).n = d.n) : Sorted (L.map f) := by
  refine sorted_pw.2 (List.pairwise_map.2 ((sorted_pw.1 h).imp ?_))
  intro a b q
  rw [hf, hf]
  exact q
theorem filter_has {L : List Wd} (g : Int → Bool) {x : Int} : hasW (L.filter (fun d => !g d.n)) x ↔ hasW L x ∧ g x = false := by
  constructor
  · rintro ⟨d, hd, rfl⟩
    obtain ⟨h1, h2⟩ := List.mem_filter.1 hd
    exact ⟨⟨d, h1, rfl⟩, by simpa using h2⟩
  · rintro ⟨⟨d, hd, rfl⟩, h2⟩
    exact ⟨d, List.mem_filter.2 ⟨hd, by simpa using h2⟩, rfl⟩
theorem filter_of {L : List Wd} (g : Int → Bool) {x : Int} (h : g x = false) : ofW (L.filter (fun d => !g d.n)) x = ofW L x := by
  unfold ofW
  rw [List.find?_filter]
  congr 1
  refine congrArg (fun q => L.find? q) ?_
  funext d
  by_cases e : d.n = x
  · simp [e, h]
  · simp [e]
/-- two rows that rise and have the same numbers are one -/
theorem rise_same : ∀ (a b : List Int), a.Pairwise (· < ·) → b.Pairwise (· < ·) → (∀ x, x ∈ a ↔ x ∈ b) → a = b
  | [], [], _, _, _ => rfl
  | [], y :: b, _, _, h => absurd ((h y).2 List.mem_cons_self) (by simp)
  | x :: a, [], _, _, h => absurd ((h x).1 List.mem_cons_self) (by simp)
  | x :: a, y :: b, ha, hb, h => by
    have ha' := List.pairwise_cons.1 ha
    have hb' := List.pairwise_cons.1 hb
    have e : x = y := by
      rcases List.mem_cons.1 ((h x).1 List.mem_cons_self) with q | q
      · exact q
      · rcases List.mem_cons.1 ((h y).2 List.mem_cons_self) with z | z
        · exact z.symm
        · have := ha'.1 y z
          have := hb'.1 x q
          omega
    subst e
    congr 1
    refine rise_same a b ha'.2 hb'.2 (fun z => ?_)
    constructor
    · intro q
      rcases List.mem_cons.1 ((h z).1 (List.mem_cons_of_mem _ q)) with t | t
      · have := ha'.1 z q; omega
      · exact t
    · intro q
      rcases List.mem_cons.1 ((h z).2 (List.mem_cons_of_mem _ q)) with t | t
      · have := hb'.1 z q; omega
      · exact t
theorem numsF_rise {L : List Wd} (h : Sorted L) (p : Int → Bool) : (numsF p L).Pairwise (· < ·) := by
  unfold numsF
  exact List.pairwise_map.2 ((sorted_pw.1 h).sublist List.filter_sublist)
theorem numsF_mem {L : List Wd} (p : Int → Bool) (y : Int) : y ∈ numsF p L ↔ hasW L y ∧ p y = true := by
  unfold numsF
  constructor
  · intro h
    obtain ⟨d, hd, rfl⟩ := List.mem_map.1 h
    obtain ⟨h1, h2⟩ := List.mem_filter.1 hd
    exact ⟨⟨d, h1, rfl⟩, h2⟩
  · rintro ⟨⟨d, hd, rfl⟩, h2⟩
    exact List.mem_map.2 ⟨d, List.mem_filter.2 ⟨hd, h2⟩, rfl⟩
theorem sort_rise {zs : List Int} (h : zs.Nodup) : (sortI zs).Pairwise (· < ·) := by
  have h1 := sortI_up zs
  have h2 : (sortI zs).Nodup := (List.mergeSort_perm zs _).nodup_iff.2 h
  have h3 := List.Pairwise.and h1 h2
  exact h3.imp (fun {a b} q => by have := q.1; have := q.2; omega)
theorem sort_mem {zs : List Int} (y : Int) : y ∈ sortI zs ↔ y ∈ zs := (List.mergeSort_perm zs _).mem_iff
/-- does a window go with x? -/
def gnB (s : Ps) (x y : Int) : Bool := belB s x y || (decide ((ofW s.L x).p ≠ 0) && decide (y = (ofW s.L x).p))
def keyG (g : Int → Bool) (d : Wd) : Wd := if g d.key = true then { d with key := 0 } else d
/-- the windows, the sibling where the parent was -/
def clsT (s : Ps) (x : Int) : List Wd := if (ofW s.L x).p = 0 then s.L else s.L.map (turnF (ofW s.L (ofW s.L x).p).p (ofW s.L x).p (sibW s.L x))
def clsL (s : Ps) (x : Int) : List Wd := ((clsT s x).filter (fun d => !gnB s x d.n)).map (keyG (gnB s x))
def clsS (s : Ps) (x : Int) : Ps := { s with L := clsL s x, root := if (ofW s.L x).p = 0 then 0 else if (ofW s.L (ofW s.L x).p).p = 0 then sibW s.L x else s.root }
theorem keyG_n (g : Int → Bool) (d : Wd) : (keyG g d).n = d.n := by unfold keyG; split <;> rfl
theorem turnF_n (up was now : Int) (d : Wd) : (turnF up was now d).n = d.n := rfl
/-- what is about a window that has a parent -/
structure Kin (s : Ps) (x p pp sb : Int) : Prop where
  hp : hasW s.L p
  k4 : (ofW s.L p).k = 4
  ab : ((ofW s.L p).a = x ∧ (ofW s.L p).b = sb) ∨ ((ofW s.L p).a = sb ∧ (ofW s.L p).b = x)
  hs : hasW s.L sb
  sp : (ofW s.L sb).p = p
  sx : sb ≠ x
  sbp : sb ≠ p
  spp : sb ≠ pp
  ppp : pp ≠ p
  gx : belB s x x = true
  gp : belB s x p = false
  gs : belB s x sb = false
  gpp : belB s x pp = false
theorem Iv.kin {s : Ps} (h : Iv s) {x : Int} (hx : hasW s.L x) (h0 : (ofW s.L x).p ≠ 0) : Kin s x (ofW s.L x).p (ofW s.L (ofW s.L x).p).p (sibW s.L x) := by
  obtain ⟨p1, p2, p3⟩ := h.par x hx h0
  obtain ⟨k1, k2, k3, k4, k5⟩ := h.kid _ p1 p2
  obtain ⟨r, hr⟩ := h.rk
  have hxp := hr x hx h0
  have gp := h.bel_no_par hx h0
  obtain ⟨sb, hsb⟩ : ∃ sb, sibW s.L x = sb := ⟨_, rfl⟩
  have ab : ((ofW s.L (ofW s.L x).p).a = x ∧ (ofW s.L (ofW s.L x).p).b = sb) ∨ ((ofW s.L (ofW s.L x).p).a = sb ∧ (ofW s.L (ofW s.L x).p).b = x) := by
    unfold sibW at hsb
    by_cases e : (ofW s.L (ofW s.L x).p).a = x
    · rw [if_pos e] at hsb; exact .inl ⟨e, hsb⟩
    · rw [if_neg e] at hsb; exact .inr ⟨hsb, p3.resolve_left e⟩
  rw [hsb]
  have hs : hasW s.L sb := by rcases ab with ⟨_, q⟩ | ⟨q, _⟩ <;> rw [← q] <;> assumption
  have sp : (ofW s.L sb).p = (ofW s.L x).p := by rcases ab with ⟨_, q⟩ | ⟨q, _⟩ <;> rw [← q] <;> assumption
  have sx : sb ≠ x := by
    rcases ab with ⟨q1, q2⟩ | ⟨q1, q2⟩
    · rw [q1, q2] at k3; exact fun e => k3 e.symm
    · rw [q1, q2] at k3; exact k3
  have hsr := hr sb hs (by rw [sp]; exact h0)
  rw [sp] at hsr
  have ppr : ∀ z, (ofW s.L (ofW s.L x).p).p = z → z ≠ 0 → r z < r (ofW s.L x).p := fun z hz h00 => by rw [← hz]; exact hr _ p1 (by rw [hz]; exact h00)
  have pos : sb ≠ 0 := by have := h.pos' hs; omega
  refine ⟨p1, p2, ab, hs, sp, sx, fun e => ?_, fun e => ?_, fun e => ?_, h.bel_self hx, gp, ?_, ?_⟩
  · rw [e] at hsr; omega
  · have := ppr sb e.symm pos; omega
  · have := ppr _ e h0; omega
  · cases hb : belB s x sb with
    | false => rfl
    | true =>
      have := h.bel_par hb sx
      rw [sp, gp] at this; cases this
  · cases hb : belB s x (ofW s.L (ofW s.L x).p).p with
    | false => rfl
    | true => have := h.bel_kid p1 hb; rw [gp] at this; cases this
theorem put_turn {s : Ps} (h : Iv s) {x : Int} (hx : hasW s.L x) (h0 : (ofW s.L x).p ≠ 0) : putS s (ofW s.L x).p (sibW s.L x) = { s with L := clsT s x, root := if (ofW s.L (ofW s.L x).p).p = 0 then sibW s.L x else s.root } := by
  have K := h.kin hx h0
  unfold putS clsT
  rw [if_neg h0]
  generalize sibW s.L x = sb at *
  generalize hP : (ofW s.L x).p = p at *
  generalize (ofW s.L p).p = pp at *
  have n0 : ∀ d ∈ s.L, d.n ≠ 0 := fun d hd => by have := h.pos d hd; omega
  by_cases q0 : pp = 0
  · subst q0
    rw [if_pos rfl, if_pos rfl]
    congr 1
    unfold updW
    refine List.map_congr_left fun d hd => ?_
    have := n0 d hd
    unfold turnF parF
    by_cases e : d.n = sb
    · simp [e, K.spp]
    · simp [e, this]
  · rw [if_neg q0, if_neg q0]
    congr 1
    unfold updW
    rw [List.map_map]
    refine List.map_congr_left fun d hd => ?_
    simp only [Function.comp]
    unfold turnF parF kidF
    by_cases e : d.n = sb
    · have : ¬ d.n = pp := fun z => K.spp (by rw [← e, z])
      simp only [e, if_true]
      simp [K.spp]
    · simp only [e, if_false]
      by_cases e2 : d.n = pp
      · simp only [e2, if_true]
        by_cases e3 : d.a = p
        · simp [e3]
        · by_cases e4 : d.b = p
          · simp [e3, e4]
          · simp [e3, e4]
            rw [← e2]
      · simp [e2]
theorem Iv.gn_zero {s : Ps} (h : Iv s) (x : Int) : gnB s x 0 = false := by
  unfold gnB
  rw [show belB s x 0 = false from upB_zero _ _ _]
  by_cases e : (ofW s.L x).p = 0
  · simp [e]
  · have : ¬ 0 = (ofW s.L x).p := fun z => e z.symm
    simp [this]
/-- what Close leaves of the program's tree -/
theorem drop_kid {s : Ps} (h : Iv s) {x : Int} (hx : hasW s.L x) (h0 : (ofW s.L x).p ≠ 0) : dropS (putS s (ofW s.L x).p (sibW s.L x)) (sortI (goneL s 64 x ++ [(ofW s.L x).p])) = clsS s x ∧ sortI (goneL s 64 x ++ [(ofW s.L x).p]) = numsF (gnB s x) s.L := by
  have K := h.kin hx h0
  have cn : ∀ y, (hasW s.L y ∨ y = 0) → (sortI (goneL s 64 x ++ [(ofW s.L x).p])).contains y = gnB s x y := fun y hy => by
    rw [Bool.eq_iff_iff, List.contains_iff_mem, sort_mem, List.mem_append, List.mem_singleton]
    unfold goneL
    rw [numsF_mem, h.bel_k x y 66 (by omega)]
    unfold gnB
    rcases hy with hy | rfl
    · simp [hy, h0]
    · have z1 : belB s x 0 = false := upB_zero _ _ _
      simp [z1, h0]
  constructor
  · rw [put_turn h hx h0]
    unfold dropS clsS clsL
    rw [if_neg h0]
    congr 1
    unfold keepL
    have hk : ∀ d ∈ clsT s x, hasW s.L d.n ∧ (d.key = 0 ∨ hasW s.L d.key) := fun d hd => by
      unfold clsT at hd
      rw [if_neg h0] at hd
      obtain ⟨d', hd', rfl⟩ := List.mem_map.1 hd
      have := h.ky d'.n (has_mem hd')
      rw [of_self h.so hd'] at this
      exact ⟨(show hasW s.L d'.n from has_mem hd'), this⟩
    rw [List.filter_congr (fun d hd => by rw [cn d.n (.inl (hk d hd).1)] : ∀ d ∈ clsT s x, (!(sortI (goneL s 64 x ++ [(ofW s.L x).p])).contains d.n) = !gnB s x d.n)]
    refine List.map_congr_left fun d hd => ?_
    unfold keyF keyG
    rw [cn d.key ((hk d (List.mem_filter.1 hd).1).2.symm)]
  · refine rise_same _ _ (sort_rise ?_) (numsF_rise h.so _) (fun y => ?_)
    · refine List.nodup_append.2 ⟨(numsF_rise h.so _).imp (fun {a b} q => by omega), by simp, fun a ha b hb => ?_⟩
      simp at hb
      subst hb
      unfold goneL at ha
      rw [numsF_mem, h.bel_k x a 66 (by omega)] at ha
      intro e
      rw [e, K.gp] at ha
      exact absurd ha.2 (by simp)
    · rw [sort_mem, List.mem_append, List.mem_singleton, numsF_mem]
      unfold goneL
      rw [numsF_mem, h.bel_k x y 66 (by omega)]
      unfold gnB
      by_cases e : y = (ofW s.L x).p
      · simp [e, K.hp, h0]
      · simp [e]
theorem Iv.gn_all {s : Ps} (h : Iv s) {x : Int} (hx : hasW s.L x) (h0 : (ofW s.L x).p = 0) : ∀ y, hasW s.L y → gnB s x y = true := fun y hy => by
  have := (h.rt x hx).1 h0
  unfold gnB
  rw [this, h.bel_root y hy]
  rfl
theorem drop_root {s : Ps} (h : Iv s) {x : Int} (hx : hasW s.L x) (h0 : (ofW s.L x).p = 0) : dropS { s with root := 0 } (sortI (goneL s 64 x)) = clsS s x ∧ sortI (goneL s 64 x) = numsF (gnB s x) s.L := by
  have ga := h.gn_all hx h0
  have cn : ∀ y, hasW s.L y → (sortI (goneL s 64 x)).contains y = gnB s x y := fun y hy => by
    rw [Bool.eq_iff_iff, List.contains_iff_mem, sort_mem]
    unfold goneL
    rw [numsF_mem, h.bel_k x y 66 (by omega)]
    unfold gnB
    simp [hy, h0]
  constructor
  · unfold dropS clsS clsL clsT
    rw [if_pos h0, if_pos h0]
    congr 1
    unfold keepL
    have e1 : s.L.filter (fun d => !(sortI (goneL s 64 x)).contains d.n) = [] := List.filter_eq_nil_iff.2 (fun d hd => by rw [cn d.n (has_mem hd), ga _ (has_mem hd)]; simp)
    have e2 : s.L.filter (fun d => !gnB s x d.n) = [] := List.filter_eq_nil_iff.2 (fun d hd => by rw [ga _ (has_mem hd)]; simp)
    show List.map _ (s.L.filter _) = _
    rw [e1, e2]
    rfl
  · refine rise_same _ _ (sort_rise ?_) (numsF_rise h.so _) (fun y => ?_)
    · exact (numsF_rise h.so _).imp (fun {a b} q => by omega)
    · rw [sort_mem, numsF_mem]
      unfold goneL
      rw [numsF_mem, h.bel_k x y 66 (by omega)]
      unfold gnB
      simp [h0]
/-- a window that is left -/
structure ClV (s : Ps) (x : Int) (L : List Wd) : Prop where
  has : ∀ y, hasW L y ↔ hasW s.L y ∧ gnB s x y = false
  old : ∀ y, hasW s.L y → gnB s x y = false → ofW L y = keyG (gnB s x) (if (ofW s.L x).p = 0 then ofW s.L y else turnF (ofW s.L (ofW s.L x).p).p (ofW s.L x).p (sibW s.L x) (ofW s.L y))
theorem cls_v {s : Ps} (h : Iv s) (x : Int) : ClV s x (clsL s x) := by
  have ht : ∀ y, hasW (clsT s x) y ↔ hasW s.L y := fun y => by
    unfold clsT
    split
    · exact Iff.rfl
    · exact map_has _ (turnF_n _ _ _)
  refine ⟨fun y => ?_, fun y hy hg => ?_⟩
  · unfold clsL
    rw [map_has _ (keyG_n _), filter_has, ht]
  · unfold clsL
    rw [map_of _ (keyG_n _) (filter_has _ |>.2 ⟨(ht y).2 hy, hg⟩), filter_of _ hg]
    unfold clsT
    split
    · rfl
    · rw [map_of _ (turnF_n _ _ _) hy]
theorem iv_cls_root {s : Ps} (h : Iv s) {x : Int} (hx : hasW s.L x) (h0 : (ofW s.L x).p = 0) : Iv (clsS s x) ∧ (clsS s x).L = [] := by
  have hL : clsL s x = [] := by
    unfold clsL clsT
    rw [if_pos h0, List.filter_eq_nil_iff.2 (fun d hd => by rw [h.gn_all hx h0 _ (has_mem hd)]; simp)]
    rfl
  have e : clsS s x = { s with L := [], root := 0 } := by
    unfold clsS
    rw [hL, if_pos h0]
  have no : ∀ x, ¬ hasW ([] : List Wd) x := by rintro x ⟨d, hd, _⟩; simp at hd
  rw [e]
  refine ⟨⟨⟨⟨⟨fun i j _ hj _ => by simp at hj⟩, by simp, fun d hd => by simp at hd⟩, h.l0, h.l1, fun d hd => by simp at hd⟩, by simp, h.scr, ?_, ?_, ?_, ?_, ?_, ?_, by simp, ?_, by simp, ⟨fun _ => 0, ?_⟩⟩, rfl⟩
  all_goals exact fun x hx => absurd hx (no x)
theorem keyG_rest (g : Int → Bool) (d : Wd) : (keyG g d).k = d.k ∧ (keyG g d).p = d.p ∧ (keyG g d).a = d.a ∧ (keyG g d).b = d.b ∧ (keyG g d).m = d.m ∧ (keyG g d).s = d.s ∧ (keyG g d).key = (if g d.key = true then 0 else d.key) := by
  unfold keyG
  by_cases e : g d.key = true
  · rw [if_pos e, if_pos e]; exact ⟨rfl, rfl, rfl, rfl, rfl, rfl, rfl⟩
  · rw [if_neg e, if_neg e]; exact ⟨rfl, rfl, rfl, rfl, rfl, rfl, rfl⟩
theorem iv_cls_kid {s : Ps} (h : Iv s) {x : Int} (hx : hasW s.L x) (h0 : (ofW s.L x).p ≠ 0) : Iv (clsS s x) := by
  have K := h.kin hx h0
  have v := cls_v h x
  obtain ⟨p, hP⟩ : ∃ p, (ofW s.L x).p = p := ⟨_, rfl⟩
  obtain ⟨sb, hS⟩ : ∃ sb, sibW s.L x = sb := ⟨_, rfl⟩
  obtain ⟨pp, hPP⟩ : ∃ pp, (ofW s.L p).p = pp := ⟨_, rfl⟩
  have hg : ∀ y, gnB s x y = false ↔ belB s x y = false ∧ y ≠ p := fun y => by
    unfold gnB
    rw [hP] at h0 ⊢
    simp [h0]
  rw [hP, hPP, hS] at K
  have old := v.old
  rw [hP] at h0 old
  simp only [if_neg h0, hPP, hS] at old
  have ofn : ∀ y, hasW s.L y → (ofW s.L y).n = y := fun y hy => (of_mem hy).2
  have l0 := h.l0
  have hpp : pp ≠ 0 → hasW s.L pp ∧ (ofW s.L pp).k = 4 ∧ ((ofW s.L pp).a = p ∨ (ofW s.L pp).b = p) := fun z => by
    have := h.par p K.hp (by rw [hPP]; exact z)
    rw [hPP] at this
    exact this
  have gsb : gnB s x sb = false := (hg sb).2 ⟨K.gs, K.sbp⟩
  have gpp : gnB s x pp = false := (hg pp).2 ⟨K.gpp, K.ppp⟩
  -- the parts of a window that is left
  have kk : ∀ y, hasW s.L y → gnB s x y = false → (ofW (clsL s x) y).k = (ofW s.L y).k ∧ (ofW (clsL s x) y).m = (ofW s.L y).m ∧ (ofW (clsL s x) y).s = (ofW s.L y).s := fun y hy q => by
    rw [old y hy q]
    have r := keyG_rest (gnB s x) (turnF pp p sb (ofW s.L y))
    exact ⟨r.1, r.2.2.2.2.1, r.2.2.2.2.2.1⟩
  have kp : ∀ y, hasW s.L y → gnB s x y = false → (ofW (clsL s x) y).p = if y = sb then pp else (ofW s.L y).p := fun y hy q => by
    rw [old y hy q, (keyG_rest _ _).2.1]
    show (if (ofW s.L y).n = sb then pp else (ofW s.L y).p) = _
    rw [ofn y hy]
  have ka : ∀ y, hasW s.L y → gnB s x y = false → (ofW (clsL s x) y).a = if y = pp ∧ (ofW s.L y).a = p then sb else (ofW s.L y).a := fun y hy q => by
    rw [old y hy q, (keyG_rest _ _).2.2.1]
    show (if (ofW s.L y).n = pp ∧ (ofW s.L y).a = p then sb else (ofW s.L y).a) = _
    rw [ofn y hy]
  have kb : ∀ y, hasW s.L y → gnB s x y = false → (ofW (clsL s x) y).b = if y = pp ∧ ¬ (ofW s.L y).a = p ∧ (ofW s.L y).b = p then sb else (ofW s.L y).b := fun y hy q => by
    rw [old y hy q, (keyG_rest _ _).2.2.2.1]
    show (if (ofW s.L y).n = pp ∧ ¬ (ofW s.L y).a = p ∧ (ofW s.L y).b = p then sb else (ofW s.L y).b) = _
    rw [ofn y hy]
  have kkey : ∀ y, hasW s.L y → gnB s x y = false → (ofW (clsL s x) y).key = if gnB s x (ofW s.L y).key = true then 0 else (ofW s.L y).key := fun y hy q => by
    rw [old y hy q, (keyG_rest _ _).2.2.2.2.2.2]
    rfl
  have bel_up : ∀ y z, hasW s.L y → gnB s x y = false → (ofW s.L y).p = z → belB s x z = false := fun y z hy q hz => by
    cases hb : belB s x z with
    | false => rfl
    | true =>
      have := h.bel_kid hy (by rw [hz]; exact hb)
      rw [((hg y).1 q).1] at this; cases this
  refine ⟨⟨⟨?_, ?_, fun d hd => ?_⟩, h.l0, h.l1, fun d hd => ?_⟩, ?_, h.scr, ?_, ?_, ?_, ?_, ?_, ?_, ?_, ?_, ?_, ?_⟩
  · show Sorted (clsL s x)
    unfold clsL clsT
    rw [hP, if_neg h0]
    exact sorted_map (sorted_filter (sorted_map h.so _ (turnF_n _ _ _)) _) _ (keyG_n _)
  · show (clsL s x).length ≤ 200
    have := h.few
    unfold clsL clsT
    rw [List.length_map]
    refine Nat.le_trans (List.length_filter_le _ _) ?_
    split
    · exact this
    · rw [List.length_map]; exact this
  · exact h.pos' ((v.has d.n).1 ⟨d, hd, rfl⟩).1
  · exact h.top' ((v.has d.n).1 ⟨d, hd, rfl⟩).1
  · show (clsL s x).length ≤ 64
    have := h.f63
    unfold clsL clsT
    rw [List.length_map]
    refine Nat.le_trans (List.length_filter_le _ _) ?_
    split
    · exact this
    · rw [List.length_map]; exact this
  · intro y hy
    obtain ⟨y1, y2⟩ := (v.has y).1 hy
    show 1 ≤ (ofW (clsL s x) y).k ∧ (ofW (clsL s x) y).k ≤ 4
    rw [(kk y y1 y2).1]; exact h.kd y y1
  · intro y hy h4
    obtain ⟨y1, y2⟩ := (v.has y).1 hy
    change (ofW (clsL s x) y).k ≠ 4 at h4
    show (ofW (clsL s x) y).a = 0 ∧ (ofW (clsL s x) y).b = 0 ∧ (ofW (clsL s x) y).m = 0 ∧ (ofW (clsL s x) y).s = 0 ∧ (ofW (clsL s x) y).key = 0
    rw [(kk y y1 y2).1] at h4
    obtain ⟨a1, a2, a3, a4, a5⟩ := h.np y y1 h4
    have np : ¬ y = pp := fun e => by
      have := h.pos' y1
      exact h4 (by rw [e]; exact (hpp (by omega)).2.1)
    rw [ka y y1 y2, kb y y1 y2, (kk y y1 y2).2.1, (kk y y1 y2).2.2, kkey y y1 y2, if_neg (fun z => np z.1), if_neg (fun z => np z.1), a5, h.gn_zero]
    exact ⟨a1, a2, a3, a4, rfl⟩
  · intro y hy h4
    obtain ⟨y1, y2⟩ := (v.has y).1 hy
    change (ofW (clsL s x) y).k = 4 at h4
    show PairW (ofW (clsL s x) y)
    rw [(kk y y1 y2).1] at h4
    have := h.pw y y1 h4
    exact ⟨by rw [(kk y y1 y2).2.1]; exact this.mt, by rw [(kk y y1 y2).2.2]; exact this.s0, by rw [(kk y y1 y2).2.2]; exact this.s1⟩
  · intro y hy
    obtain ⟨y1, y2⟩ := (v.has y).1 hy
    show (ofW (clsL s x) y).key = 0 ∨ hasW (clsL s x) (ofW (clsL s x) y).key
    rw [kkey y y1 y2]
    by_cases q : gnB s x (ofW s.L y).key = true
    · rw [if_pos q]; exact .inl rfl
    · rw [if_neg q]
      exact (h.ky y y1).imp id (fun z => (v.has _).2 ⟨z, by simpa using q⟩)
  · intro y hy hy0
    obtain ⟨y1, y2⟩ := (v.has y).1 hy
    change (ofW (clsL s x) y).p ≠ 0 at hy0
    show hasW (clsL s x) (ofW (clsL s x) y).p ∧ (ofW (clsL s x) (ofW (clsL s x) y).p).k = 4 ∧ ((ofW (clsL s x) (ofW (clsL s x) y).p).a = y ∨ (ofW (clsL s x) (ofW (clsL s x) y).p).b = y)
    rw [kp y y1 y2] at hy0 ⊢
    by_cases e : y = sb
    · rw [if_pos e] at hy0 ⊢
      obtain ⟨t1, t2, t3⟩ := hpp hy0
      refine ⟨(v.has _).2 ⟨t1, gpp⟩, by rw [(kk pp t1 gpp).1]; exact t2, ?_⟩
      rw [ka pp t1 gpp, kb pp t1 gpp, e]
      by_cases z : (ofW s.L pp).a = p
      · left; rw [if_pos ⟨rfl, z⟩]
      · right; rw [if_pos ⟨rfl, z, t3.resolve_left z⟩]
    · rw [if_neg e] at hy0 ⊢
      obtain ⟨t1, t2, t3⟩ := h.par y y1 hy0
      obtain ⟨z, hz⟩ : ∃ z, (ofW s.L y).p = z := ⟨_, rfl⟩
      rw [hz] at t1 t2 t3 ⊢
      have bz := bel_up y z y1 y2 hz
      have zp : z ≠ p := fun q => by
        rw [q] at t3
        have yx : y ≠ x := fun q2 => by rw [q2] at y2; have := ((hg x).1 y2).1; rw [K.gx] at this; cases this
        rcases K.ab with ⟨q1, q2⟩ | ⟨q1, q2⟩
        · rw [q1, q2] at t3; rcases t3 with t | t <;> omega
        · rw [q1, q2] at t3; rcases t3 with t | t <;> omega
      have gz := (hg z).2 ⟨bz, zp⟩
      refine ⟨(v.has _).2 ⟨t1, gz⟩, by rw [(kk z t1 gz).1]; exact t2, ?_⟩
      have yp := ((hg y).1 y2).2
      rw [ka z t1 gz, kb z t1 gz]
      rcases t3 with t | t
      · left; rw [if_neg (fun q => yp (by rw [← t, q.2])), t]
      · right; rw [if_neg (fun q => yp (by rw [← t, q.2.2])), t]
  · intro y hy h4
    obtain ⟨y1, y2⟩ := (v.has y).1 hy
    change (ofW (clsL s x) y).k = 4 at h4
    show hasW (clsL s x) (ofW (clsL s x) y).a ∧ hasW (clsL s x) (ofW (clsL s x) y).b ∧ (ofW (clsL s x) y).a ≠ (ofW (clsL s x) y).b ∧ (ofW (clsL s x) (ofW (clsL s x) y).a).p = y ∧ (ofW (clsL s x) (ofW (clsL s x) y).b).p = y
    rw [(kk y y1 y2).1] at h4
    obtain ⟨t1, t2, t3, t4, t5⟩ := h.kid y y1 h4
    have gy := (hg y).1 y2
    have bk : ∀ z, hasW s.L z → (ofW s.L z).p = y → belB s x z = false := fun z hz q => by
      cases hb : belB s x z with
      | false => rfl
      | true =>
        by_cases e : z = x
        · rw [e, hP] at q; exact absurd q.symm gy.2
        · have := h.bel_par hb e
          rw [q, gy.1] at this; cases this
    have ba := bk _ t1 t4
    have bb := bk _ t2 t5
    have nsb : ∀ z, (ofW s.L z).p = y → z ≠ sb := fun z q e => by
      rw [e, K.sp] at q; exact gy.2 q.symm
    rw [ka y y1 y2, kb y y1 y2]
    by_cases e : y = pp
    · have ypp : pp ≠ 0 := by rw [← e]; have := h.pos' y1; omega
      obtain ⟨u1, u2, u3⟩ := hpp ypp
      rw [← e] at u3
      have psb : (ofW (clsL s x) sb).p = y := by rw [kp sb K.hs gsb, if_pos rfl, e]
      by_cases za : (ofW s.L y).a = p
      · have zb : (ofW s.L y).b ≠ p := fun q => t3 (by rw [za, q])
        have gb := (hg _).2 ⟨bb, zb⟩
        rw [if_pos ⟨e, za⟩, if_neg (fun q => q.2.1 za)]
        refine ⟨(v.has _).2 ⟨K.hs, gsb⟩, (v.has _).2 ⟨t2, gb⟩, fun q => nsb _ t5 q.symm, psb, ?_⟩
        rw [kp _ t2 gb, if_neg (nsb _ t5)]
        exact t5
      · have zb := u3.resolve_left za
        have ga := (hg _).2 ⟨ba, za⟩
        rw [if_neg (fun q => za q.2), if_pos ⟨e, za, zb⟩]
        refine ⟨(v.has _).2 ⟨t1, ga⟩, (v.has _).2 ⟨K.hs, gsb⟩, nsb _ t4, ?_, psb⟩
        rw [kp _ t1 ga, if_neg (nsb _ t4)]
        exact t4
    · have za : (ofW s.L y).a ≠ p := fun q => by rw [q, hPP] at t4; exact e t4.symm
      have zb : (ofW s.L y).b ≠ p := fun q => by rw [q, hPP] at t5; exact e t5.symm
      have ga := (hg _).2 ⟨ba, za⟩
      have gb := (hg _).2 ⟨bb, zb⟩
      rw [if_neg (fun q => e q.1), if_neg (fun q => e q.1)]
      refine ⟨(v.has _).2 ⟨t1, ga⟩, (v.has _).2 ⟨t2, gb⟩, t3, ?_, ?_⟩
      · rw [kp _ t1 ga, if_neg (nsb _ t4)]; exact t4
      · rw [kp _ t2 gb, if_neg (nsb _ t5)]; exact t5
  · show (if (ofW s.L x).p = 0 then 0 else if (ofW s.L (ofW s.L x).p).p = 0 then sibW s.L x else s.root) = 0 ↔ (clsL s x).length = 0
    rw [hP, if_neg h0, hPP, hS]
    have hsl : (clsL s x).length ≠ 0 := fun q => by
      have q2 := List.length_eq_zero_iff.1 q
      obtain ⟨d, hd, _⟩ := (v.has sb).2 ⟨K.hs, gsb⟩
      rw [q2] at hd
      simp at hd
    constructor
    · intro q
      exfalso
      split at q
      · have := h.pos' K.hs; omega
      · have := h.rt0.1 q
        obtain ⟨d, hd, _⟩ := hx
        have := List.length_pos_of_mem hd
        omega
    · intro q; exact absurd q hsl
  · intro y hy
    obtain ⟨y1, y2⟩ := (v.has y).1 hy
    show (ofW (clsL s x) y).p = 0 ↔ y = (if (ofW s.L x).p = 0 then 0 else if (ofW s.L (ofW s.L x).p).p = 0 then sibW s.L x else s.root)
    rw [hP, if_neg h0, hPP, hS, kp y y1 y2]
    have gy := (hg y).1 y2
    by_cases e : y = sb
    · rw [if_pos e]
      constructor
      · intro q; rw [if_pos q]; exact e
      · intro q
        split at q
        · assumption
        · rw [← e] at K
          have := (h.rt y y1).2 q
          rw [K.sp] at this
          exact absurd this h0
    · rw [if_neg e]
      constructor
      · intro q
        have yr := (h.rt y y1).1 q
        split
        · rename_i q2
          have := (h.rt p K.hp).1 (by rw [hPP]; exact q2)
          exact absurd (by rw [yr, this]) gy.2
        · exact yr
      · intro q
        split at q
        · exact absurd q e
        · exact (h.rt y y1).2 q
  · show (if (ofW s.L x).p = 0 then 0 else if (ofW s.L (ofW s.L x).p).p = 0 then sibW s.L x else s.root) ≠ 0 → hasW (clsL s x) (if (ofW s.L x).p = 0 then 0 else if (ofW s.L (ofW s.L x).p).p = 0 then sibW s.L x else s.root)
    rw [hP, if_neg h0, hPP, hS]
    intro q
    split
    · exact (v.has _).2 ⟨K.hs, gsb⟩
    · rename_i q2
      rw [if_neg q2] at q
      have hr := h.rh q
      have rp := (h.rt _ hr).2 rfl
      refine (v.has _).2 ⟨hr, (hg _).2 ⟨?_, fun e => q2 (by rw [← hPP, ← e]; exact rp)⟩⟩
      cases hb : belB s x s.root with
      | false => rfl
      | true =>
        by_cases e : s.root = x
        · rw [e, hP] at rp; exact absurd rp h0
        · have := h.bel_par hb e
          rw [rp, show belB s x 0 = false from upB_zero _ _ _] at this; cases this
  · obtain ⟨r, hr⟩ := h.rk
    refine ⟨r, fun y hy hy0 => ?_⟩
    obtain ⟨y1, y2⟩ := (v.has y).1 hy
    change (ofW (clsL s x) y).p ≠ 0 at hy0
    show r (ofW (clsL s x) y).p < r y
    rw [kp y y1 y2] at hy0 ⊢
    by_cases e : y = sb
    · rw [if_pos e] at hy0 ⊢
      have r1 := hr sb K.hs (by rw [K.sp]; exact h0)
      rw [K.sp] at r1
      have r2 := hr p K.hp (by rw [hPP]; exact hy0)
      rw [hPP] at r2
      rw [e]; omega
    · rw [if_neg e] at hy0 ⊢
      exact hr y y1 hy0
end Go.Proofs.Ytilfgbcbodjegaa
