/- Layer 14: the windows behind an Open. -/
import Derived.Test.YtilfgbcbodjegaaI14a
import Derived.Test.YtilfgbcbodjegaaP14v
namespace Go.Proofs.Ytilfgbcbodjegaa
open Go.RowKit
set_option maxHeartbeats 1000000
set_option maxRecDepth 100000
set_option linter.unusedVariables false

def opnF (split LP q : Int) (d : Wd) : Wd := if d.n = split then parF LP d else if q ≠ 0 ∧ d.n = q then kidF split LP d else d
theorem opnF_n (split LP q : Int) (d : Wd) : (opnF split LP q d).n = d.n := by
  unfold opnF
  split
  · rfl
  · split
    · exact kidF_n _ _ _
    · rfl
def opnW (s : Ps) (k : Int) : Wd := ⟨s.last + 1, k, s.last + 2, 0, 0, 0, 0, 0⟩
def opnP (s : Ps) (split m sz : Int) : Wd := ⟨s.last + 2, 4, (ofW s.L split).p, if m % 2 = 0 then s.last + 1 else split, if m % 2 = 0 then split else s.last + 1, m, sz, s.last + 1⟩
/-- the windows behind an Open beside one -/
def opnL (s : Ps) (split m sz k : Int) : List Wd := s.L.map (opnF split (s.last + 2) (ofW s.L split).p) ++ [opnW s k, opnP s split m sz]
def opnS (s : Ps) (split m sz k : Int) : Ps := { s with L := opnL s split m sz k, last := s.last + 2, root := if (ofW s.L split).p = 0 then s.last + 2 else s.root }
theorem open_eq {s : Ps} (h : Iv s) (split m sz k : Int) (hx : hasW s.L split) : openS s split m sz k = opnS s split m sz k := by
  have h0 : split ≠ 0 := by have := h.pos' hx; omega
  have l0 := h.l0
  have t1 : ∀ d ∈ s.L, d.n ≠ s.last + 1 ∧ d.n ≠ s.last + 2 := fun d hd => by have := h.top d hd; omega
  have tx := h.top' hx
  have e2 : s.last + 1 + 1 = s.last + 2 := by omega
  have n1 : ¬ s.last + 1 = s.last + 2 := by omega
  have n2 : ¬ s.last + 2 = s.last + 1 := by omega
  have n3 : ¬ s.last + 1 = split := by omega
  have n4 : ¬ s.last + 2 = split := by omega
  have n5 : ¬ split = s.last + 1 := by omega
  have n6 : ¬ split = s.last + 2 := by omega
  have hq : (ofW s.L split).p ≤ s.last := by
    by_cases q0 : (ofW s.L split).p = 0
    · omega
    · exact h.top' (h.par split hx q0).1
  have hsq := rank_up h split hx
  obtain ⟨q, hqe⟩ : ∃ q, (ofW s.L split).p = q := ⟨_, rfl⟩
  rw [hqe] at hq hsq
  have n7 : ¬ s.last + 1 = q := by omega
  have n8 : ¬ s.last + 2 = q := by omega
  have of2 : ofW ((s.L ++ [⟨s.last + 1, k, 0, 0, 0, 0, 0, 0⟩]) ++ [⟨s.last + 2, 4, 0, 0, 0, m, sz, s.last + 1⟩]) split = ofW s.L split := by rw [of_app (has_app hx), of_app hx]
  unfold openS opnS opnL
  rw [if_neg h0]
  have ep : putS (addS (addS s ⟨0, k, 0, 0, 0, 0, 0, 0⟩) ⟨0, 4, 0, 0, 0, m, sz, s.last + 1⟩) split (s.last + 2) = { s with last := s.last + 2, root := if q = 0 then s.last + 2 else s.root, L := (s.L.map (fun d => if q ≠ 0 ∧ d.n = q then kidF split (s.last + 2) d else d)) ++ [⟨s.last + 1, k, 0, 0, 0, 0, 0, 0⟩, ⟨s.last + 2, 4, q, 0, 0, m, sz, s.last + 1⟩] } := by
    unfold putS addS
    simp only [e2]
    rw [of2, hqe]
    by_cases q0 : q = 0
    · rw [if_pos q0, if_pos q0]
      subst q0
      congr 1
      simp only [updW, List.map_append, List.map_cons, List.map_nil, List.append_assoc, List.cons_append, List.nil_append, n1, if_false, if_true, parF]
      congr 1
      refine List.map_congr_left fun d hd => ?_
      rw [if_neg (t1 d hd).2, if_neg (by simp)]
    · rw [if_neg q0, if_neg q0]
      congr 1
      simp only [updW, List.map_append, List.map_cons, List.map_nil, List.append_assoc, List.cons_append, List.nil_append, n1, if_false, if_true, parF, n7, n8, List.map_map]
      congr 1
      refine List.map_congr_left fun d hd => ?_
      simp only [Function.comp]
      rw [if_neg (t1 d hd).2]
      by_cases e : d.n = q
      · rw [if_pos e, if_pos ⟨q0, e⟩]
      · rw [if_neg e, if_neg (fun z => e z.2)]
  rw [ep]
  have hm2 : (ofW ((s.L.map (fun d => if q ≠ 0 ∧ d.n = q then kidF split (s.last + 2) d else d)) ++ [⟨s.last + 1, k, 0, 0, 0, 0, 0, 0⟩, ⟨s.last + 2, 4, q, 0, 0, m, sz, s.last + 1⟩]) (s.last + 2)).m = m := by
    have : (s.L.map (fun d => if q ≠ 0 ∧ d.n = q then kidF split (s.last + 2) d else d)) ++ [⟨s.last + 1, k, 0, 0, 0, 0, 0, 0⟩, ⟨s.last + 2, 4, q, 0, 0, m, sz, s.last + 1⟩] = ((s.L.map (fun d => if q ≠ 0 ∧ d.n = q then kidF split (s.last + 2) d else d)) ++ [⟨s.last + 1, k, 0, 0, 0, 0, 0, 0⟩]) ++ ⟨s.last + 2, 4, q, 0, 0, m, sz, s.last + 1⟩ :: [] := by simp
    rw [this, of_last (fun d hd => ?_) rfl]
    rcases List.mem_append.1 hd with z | z
    · obtain ⟨d', hd', rfl⟩ := List.mem_map.1 z
      have : (if q ≠ 0 ∧ d'.n = q then kidF split (s.last + 2) d' else d').n = d'.n := by split; exact kidF_n _ _ _; rfl
      rw [this]
      exact (t1 d' hd').2
    · simp at z; subst z; exact n1
  have fin : ∀ a b : Int, (a = s.last + 1 ∧ b = split ∨ a = split ∧ b = s.last + 1) → joinK { s with last := s.last + 2, root := if q = 0 then s.last + 2 else s.root, L := (s.L.map (fun d => if q ≠ 0 ∧ d.n = q then kidF split (s.last + 2) d else d)) ++ [⟨s.last + 1, k, 0, 0, 0, 0, 0, 0⟩, ⟨s.last + 2, 4, q, 0, 0, m, sz, s.last + 1⟩] } (s.last + 2) a b 2 = { s with last := s.last + 2, root := if q = 0 then s.last + 2 else s.root, L := s.L.map (opnF split (s.last + 2) q) ++ [opnW s k, ⟨s.last + 2, 4, q, a, b, m, sz, s.last + 1⟩] } := by
    intro a b hab
    unfold joinK opnW
    congr 1
    rcases hab with ⟨ha, hb⟩ | ⟨ha, hb⟩
    all_goals
      have ha' := ha.symm
      have hb' := hb.symm
      clear ha hb
      subst ha'
      subst hb'
      simp only [updW, List.map_append, List.map_cons, List.map_nil, n1, n2, n3, n4, if_false, if_true, parF, kidsF, List.map_map]
      congr 1
      congr 1
      refine List.map_congr_left fun d hd => ?_
      simp only [Function.comp]
      have hkn : (if q ≠ 0 ∧ d.n = q then kidF split (s.last + 2) d else d).n = d.n := by split; exact kidF_n _ _ _; rfl
      simp only [hkn, (t1 d hd).1, (t1 d hd).2, if_false]
      unfold opnF
      have d1 := (t1 d hd).1
      have d2 := (t1 d hd).2
      by_cases e : d.n = split
      · have e' : ¬ (q ≠ 0 ∧ d.n = q) := fun z => hsq z.1 (by rw [← z.2, e])
        rw [if_neg e', if_pos e]
        simp only [e, n5, if_true, if_false, parF]
      · rw [if_neg e]
        simp only [e, d1, if_false, hkn]
  unfold joinS
  rw [hm2]
  unfold opnP
  rw [hqe]
  by_cases hm : m % 2 = 0
  · rw [if_pos hm, if_pos hm, if_pos hm, fin _ _ (.inl ⟨rfl, rfl⟩)]
  · rw [if_neg hm, if_neg hm, if_neg hm, fin _ _ (.inr ⟨rfl, rfl⟩)]
/-- the windows behind an Open, one by one -/
structure OpV (s : Ps) (split m sz k : Int) (L : List Wd) : Prop where
  has : ∀ x, hasW L x ↔ hasW s.L x ∨ x = s.last + 1 ∨ x = s.last + 2
  new : ofW L (s.last + 1) = opnW s k
  pair : ofW L (s.last + 2) = opnP s split m sz
  old : ∀ x, hasW s.L x → ofW L x = opnF split (s.last + 2) (ofW s.L split).p (ofW s.L x)
theorem opn_v {s : Ps} (h : Iv s) (split m sz k : Int) (hx : hasW s.L split) : OpV s split m sz k (opnL s split m sz k) := by
  have t1 : ∀ d ∈ s.L.map (opnF split (s.last + 2) (ofW s.L split).p), d.n ≠ s.last + 1 ∧ d.n ≠ s.last + 2 := fun d hd => by
    obtain ⟨d', hd', rfl⟩ := List.mem_map.1 hd
    rw [opnF_n]
    have := h.top d' hd'; omega
  unfold opnL
  refine ⟨fun x => ?_, ?_, ?_, fun x hx => ?_⟩
  · constructor
    · rintro ⟨d, hd, rfl⟩
      rcases List.mem_append.1 hd with q | q
      · exact .inl ((map_has _ (opnF_n _ _ _)).1 ⟨d, q, rfl⟩)
      · simp at q
        rcases q with rfl | rfl
        · exact .inr (.inl rfl)
        · exact .inr (.inr rfl)
    · rintro (q | rfl | rfl)
      · exact has_app ((map_has _ (opnF_n _ _ _)).2 q)
      · exact ⟨opnW s k, by simp, rfl⟩
      · exact ⟨opnP s split m sz, by simp, rfl⟩
  · exact of_last (fun d hd => (t1 d hd).1) rfl
  · rw [show s.L.map (opnF split (s.last + 2) (ofW s.L split).p) ++ [opnW s k, opnP s split m sz] = (s.L.map (opnF split (s.last + 2) (ofW s.L split).p) ++ [opnW s k]) ++ opnP s split m sz :: [] by simp]
    refine of_last (fun d hd => ?_) rfl
    rcases List.mem_append.1 hd with q | q
    · exact (t1 d q).2
    · simp at q; subst q; show s.last + 1 ≠ s.last + 2; omega
  · rw [of_app ((map_has _ (opnF_n _ _ _)).2 hx), map_of _ (opnF_n _ _ _) hx]
theorem kidF_rest (o n : Int) (d : Wd) : (kidF o n d).k = d.k ∧ (kidF o n d).p = d.p ∧ (kidF o n d).m = d.m ∧ (kidF o n d).s = d.s ∧ (kidF o n d).key = d.key := by
  unfold kidF
  split
  · exact ⟨rfl, rfl, rfl, rfl, rfl⟩
  · split <;> exact ⟨rfl, rfl, rfl, rfl, rfl⟩
theorem opnF_rest (split LP q : Int) (d : Wd) : (opnF split LP q d).k = d.k ∧ (opnF split LP q d).m = d.m ∧ (opnF split LP q d).s = d.s ∧ (opnF split LP q d).key = d.key ∧ (opnF split LP q d).p = (if d.n = split then LP else d.p) := by
  unfold opnF
  by_cases e : d.n = split
  · rw [if_pos e, if_pos e]; exact ⟨rfl, rfl, rfl, rfl, rfl⟩
  · rw [if_neg e, if_neg e]
    split
    · have := kidF_rest split LP d
      exact ⟨this.1, this.2.2.1, this.2.2.2.1, this.2.2.2.2, this.2.1⟩
    · exact ⟨rfl, rfl, rfl, rfl, rfl⟩
theorem opn_sorted {s : Ps} (h : Iv s) (split m sz k : Int) : Sorted (opnL s split m sz k) := by
  have hl : (s.L.map (opnF split (s.last + 2) (ofW s.L split).p)).length = s.L.length := by simp
  have hn : ∀ i (hi : i < s.L.length), ((s.L.map (opnF split (s.last + 2) (ofW s.L split).p))[i]'(by rw [hl]; exact hi)).n = s.L[i].n := fun i hi => by simp only [List.getElem_map, opnF_n]
  refine ⟨fun i j hij hj hi => ?_⟩
  have hjl : j < s.L.length + 2 := by simpa [opnL] using hj
  have g1 : ∀ i (hi : i < (opnL s split m sz k).length) (hil : i < s.L.length), ((opnL s split m sz k)[i]).n = s.L[i].n := fun i hi hil => by
    simp only [opnL]
    rw [List.getElem_append_left (by rw [hl]; exact hil)]
    exact hn i hil
  have g2 : ∀ (hi : s.L.length < (opnL s split m sz k).length), ((opnL s split m sz k)[s.L.length]).n = s.last + 1 := fun hi => by
    simp only [opnL]
    rw [List.getElem_append_right (by rw [hl]; exact Nat.le_refl _)]
    simp [opnW]
  have g3 : ∀ (hi : s.L.length + 1 < (opnL s split m sz k).length), ((opnL s split m sz k)[s.L.length + 1]).n = s.last + 2 := fun hi => by
    simp only [opnL]
    rw [List.getElem_append_right (by rw [hl]; omega)]
    simp [opnP]
  rcases (show j < s.L.length ∨ j = s.L.length ∨ j = s.L.length + 1 by omega) with q | q | q
  · rw [g1 i hi (by omega), g1 j hj q]
    exact h.so.rise i j hij q (by omega)
  · subst q
    rw [g1 i hi hij, g2 hj]
    have := h.top s.L[i] (List.getElem_mem hij)
    omega
  · subst q
    rw [g3 hj]
    rcases (show i < s.L.length ∨ i = s.L.length by omega) with z | z
    · rw [g1 i hi z]
      have := h.top s.L[i] (List.getElem_mem z)
      omega
    · subst z
      rw [g2 hi]
      omega
theorem iv_open {s : Ps} (h : Iv s) (split m sz k : Int) (hx : hasW s.L split) (hm : mtdB m = true) (hk : 1 ≤ k ∧ k ≤ 3) (hs : 0 ≤ sz ∧ sz ≤ 4294967295) (hn : s.L.length ≤ 62) (hl : s.last ≤ 90000) : Iv (opnS s split m sz k) := by
  have v := opn_v h split m sz k hx
  have l0 := h.l0
  have hpos := h.pos' hx
  have htop := h.top' hx
  have hln : (opnL s split m sz k).length = s.L.length + 2 := by simp [opnL]
  have hu := rank_up h split hx
  have hold := fun x hx => v.old x hx
  have nx : ∀ x, hasW s.L x → x ≠ s.last + 1 ∧ x ≠ s.last + 2 ∧ 0 < x := fun x hx => by have := h.top' hx; have := h.pos' hx; omega
  have ofn : ∀ x, hasW s.L x → (ofW s.L x).n = x := fun x hx => (of_mem hx).2
  have pp : ∀ x, hasW s.L x → (ofW (opnL s split m sz k) x).p = if x = split then s.last + 2 else (ofW s.L x).p := fun x hx => by
    rw [hold x hx, (opnF_rest _ _ _ _).2.2.2.2, ofn x hx]
  have kk : ∀ x, hasW s.L x → (ofW (opnL s split m sz k) x).k = (ofW s.L x).k := fun x hx => by rw [hold x hx, (opnF_rest _ _ _ _).1]
  -- the children of an old window
  have ab : ∀ x, hasW s.L x → (ofW (opnL s split m sz k) x).a = (if (ofW s.L split).p ≠ 0 ∧ x = (ofW s.L split).p ∧ (ofW s.L x).a = split then s.last + 2 else (ofW s.L x).a) ∧ (ofW (opnL s split m sz k) x).b = (if (ofW s.L split).p ≠ 0 ∧ x = (ofW s.L split).p ∧ (ofW s.L x).a ≠ split ∧ (ofW s.L x).b = split then s.last + 2 else (ofW s.L x).b) := fun x hxx => by
    rw [hold x hxx]
    unfold opnF
    rw [ofn x hxx]
    by_cases e : x = split
    · rw [if_pos e]
      have : ¬ (x = (ofW s.L split).p ∧ (ofW s.L split).p ≠ 0) := fun z => hu z.2 (by rw [← z.1, e])
      refine ⟨?_, ?_⟩
      · rw [if_neg (fun z => this ⟨z.2.1, z.1⟩)]; rfl
      · rw [if_neg (fun z => this ⟨z.2.1, z.1⟩)]; rfl
    · rw [if_neg e]
      by_cases e2 : (ofW s.L split).p ≠ 0 ∧ x = (ofW s.L split).p
      · rw [if_pos e2]
        unfold kidF
        by_cases e3 : (ofW s.L x).a = split
        · rw [if_pos e3, if_pos ⟨e2.1, e2.2, e3⟩, if_neg (fun z => z.2.2.1 e3)]
          exact ⟨rfl, rfl⟩
        · have c1 : ¬ ((ofW s.L split).p ≠ 0 ∧ x = (ofW s.L split).p ∧ (ofW s.L x).a = split) := fun z => e3 z.2.2
          rw [if_neg c1, if_neg e3]
          by_cases e4 : (ofW s.L x).b = split
          · rw [if_pos e4, if_pos ⟨e2.1, e2.2, e3, e4⟩]; exact ⟨rfl, rfl⟩
          · have c2 : ¬ ((ofW s.L split).p ≠ 0 ∧ x = (ofW s.L split).p ∧ (ofW s.L x).a ≠ split ∧ (ofW s.L x).b = split) := fun z => e4 z.2.2.2
            rw [if_neg e4, if_neg c2]; exact ⟨rfl, rfl⟩
      · rw [if_neg e2, if_neg (fun z => e2 ⟨z.1, z.2.1⟩), if_neg (fun z => e2 ⟨z.1, z.2.1⟩)]
        exact ⟨rfl, rfl⟩
  -- no other window has split as a child
  have only : ∀ x, hasW s.L x → (ofW s.L x).k = 4 → (ofW s.L x).a = split ∨ (ofW s.L x).b = split → x = (ofW s.L split).p := fun x hx h4 hc => by
    obtain ⟨k1, k2, k3, k4, k5⟩ := h.kid x hx h4
    rcases hc with z | z
    · rw [z] at k4; exact k4.symm
    · rw [z] at k5; exact k5.symm
  refine ⟨⟨⟨opn_sorted h split m sz k, by show (opnL s split m sz k).length ≤ 200; omega, fun d hd => ?_⟩, by show 0 ≤ s.last + 2; omega, by show s.last + 2 ≤ 100000; omega, fun d hd => ?_⟩, by show (opnL s split m sz k).length ≤ 64; omega, h.scr, ?_, ?_, ?_, ?_, ?_, ?_, ?_, ?_, ?_, ?_⟩
  · rcases (v.has d.n).1 ⟨d, hd, rfl⟩ with q | q | q
    · exact h.pos' q
    · omega
    · omega
  · show d.n ≤ s.last + 2
    rcases (v.has d.n).1 ⟨d, hd, rfl⟩ with q | q | q
    · have := h.top' q; omega
    · omega
    · omega
  · intro x hx'
    show 1 ≤ (ofW (opnL s split m sz k) x).k ∧ (ofW (opnL s split m sz k) x).k ≤ 4
    rcases (v.has x).1 hx' with q | rfl | rfl
    · rw [kk x q]; exact h.kd x q
    · rw [v.new]; show 1 ≤ k ∧ k ≤ 4; omega
    · rw [v.pair]; show (1 : Int) ≤ 4 ∧ (4 : Int) ≤ 4; omega
  · intro x hx' h4
    change (ofW (opnL s split m sz k) x).k ≠ 4 at h4
    show (ofW (opnL s split m sz k) x).a = 0 ∧ (ofW (opnL s split m sz k) x).b = 0 ∧ (ofW (opnL s split m sz k) x).m = 0 ∧ (ofW (opnL s split m sz k) x).s = 0 ∧ (ofW (opnL s split m sz k) x).key = 0
    rcases (v.has x).1 hx' with q | rfl | rfl
    · rw [kk x q] at h4
      obtain ⟨a1, a2, a3, a4, a5⟩ := h.np x q h4
      have r := opnF_rest split (s.last + 2) (ofW s.L split).p (ofW s.L x)
      rw [(ab x q).1, (ab x q).2, a1, a2, if_neg (by omega), if_neg (by omega), hold x q, r.2.1, r.2.2.1, r.2.2.2.1]
      exact ⟨rfl, rfl, a3, a4, a5⟩
    · rw [v.new]; exact ⟨rfl, rfl, rfl, rfl, rfl⟩
    · rw [v.pair] at h4; exact absurd rfl h4
  · intro x hx' h4
    change (ofW (opnL s split m sz k) x).k = 4 at h4
    show PairW (ofW (opnL s split m sz k) x)
    rcases (v.has x).1 hx' with q | rfl | rfl
    · rw [kk x q] at h4
      have := h.pw x q h4
      have r := opnF_rest split (s.last + 2) (ofW s.L split).p (ofW s.L x)
      rw [hold x q]
      exact ⟨by rw [r.2.1]; exact this.mt, by rw [r.2.2.1]; exact this.s0, by rw [r.2.2.1]; exact this.s1⟩
    · rw [v.new] at h4; change k = 4 at h4; omega
    · rw [v.pair]; exact ⟨hm, hs.1, hs.2⟩
  · intro x hx'
    show (ofW (opnL s split m sz k) x).key = 0 ∨ hasW (opnL s split m sz k) (ofW (opnL s split m sz k) x).key
    rcases (v.has x).1 hx' with q | rfl | rfl
    · rw [hold x q, (opnF_rest _ _ _ _).2.2.2.1]
      exact (h.ky x q).imp id (fun z => (v.has _).2 (.inl z))
    · rw [v.new]; exact .inl rfl
    · rw [v.pair]; exact .inr ((v.has _).2 (.inr (.inl rfl)))
  · intro x hx' h0
    change (ofW (opnL s split m sz k) x).p ≠ 0 at h0
    show hasW (opnL s split m sz k) (ofW (opnL s split m sz k) x).p ∧ (ofW (opnL s split m sz k) (ofW (opnL s split m sz k) x).p).k = 4 ∧ ((ofW (opnL s split m sz k) (ofW (opnL s split m sz k) x).p).a = x ∨ (ofW (opnL s split m sz k) (ofW (opnL s split m sz k) x).p).b = x)
    rcases (v.has x).1 hx' with q | rfl | rfl
    · rw [pp x q] at h0 ⊢
      by_cases e : x = split
      · rw [if_pos e, v.pair]
        refine ⟨(v.has _).2 (.inr (.inr rfl)), rfl, ?_⟩
        unfold opnP
        by_cases hm2 : m % 2 = 0
        · right; simp only; rw [if_pos hm2, e]
        · left; simp only; rw [if_neg hm2, e]
      · rw [if_neg e] at h0 ⊢
        obtain ⟨p1, p2, p3⟩ := h.par x q h0
        refine ⟨(v.has _).2 (.inl p1), by rw [kk _ p1]; exact p2, ?_⟩
        rw [(ab _ p1).1, (ab _ p1).2]
        rcases p3 with z | z
        · left; rw [if_neg (fun t => e (by rw [← z, t.2.2])), z]
        · right; rw [if_neg (fun t => e (by rw [← z, t.2.2.2])), z]
    · rw [v.new]
      show hasW (opnL s split m sz k) (s.last + 2) ∧ _
      refine ⟨(v.has _).2 (.inr (.inr rfl)), ?_⟩
      show (ofW (opnL s split m sz k) (s.last + 2)).k = 4 ∧ ((ofW (opnL s split m sz k) (s.last + 2)).a = s.last + 1 ∨ (ofW (opnL s split m sz k) (s.last + 2)).b = s.last + 1)
      rw [v.pair]
      refine ⟨rfl, ?_⟩
      unfold opnP
      by_cases hm2 : m % 2 = 0
      · left; simp only; rw [if_pos hm2]
      · right; simp only; rw [if_neg hm2]
    · rw [v.pair] at h0 ⊢
      change (ofW s.L split).p ≠ 0 at h0
      show hasW (opnL s split m sz k) (ofW s.L split).p ∧ (ofW (opnL s split m sz k) (ofW s.L split).p).k = 4 ∧ ((ofW (opnL s split m sz k) (ofW s.L split).p).a = s.last + 2 ∨ (ofW (opnL s split m sz k) (ofW s.L split).p).b = s.last + 2)
      obtain ⟨p1, p2, p3⟩ := h.par split hx h0
      refine ⟨(v.has _).2 (.inl p1), by rw [kk _ p1]; exact p2, ?_⟩
      rw [(ab _ p1).1, (ab _ p1).2]
      by_cases z : (ofW s.L (ofW s.L split).p).a = split
      · left; rw [if_pos ⟨h0, rfl, z⟩]
      · right; rw [if_pos ⟨h0, rfl, z, p3.resolve_left z⟩]
  · intro x hx' h4
    change (ofW (opnL s split m sz k) x).k = 4 at h4
    show hasW (opnL s split m sz k) (ofW (opnL s split m sz k) x).a ∧ hasW (opnL s split m sz k) (ofW (opnL s split m sz k) x).b ∧ (ofW (opnL s split m sz k) x).a ≠ (ofW (opnL s split m sz k) x).b ∧ (ofW (opnL s split m sz k) (ofW (opnL s split m sz k) x).a).p = x ∧ (ofW (opnL s split m sz k) (ofW (opnL s split m sz k) x).b).p = x
    rcases (v.has x).1 hx' with q | rfl | rfl
    · rw [kk x q] at h4
      obtain ⟨k1, k2, k3, k4, k5⟩ := h.kid x q h4
      have t1 := nx _ k1
      have t2 := nx _ k2
      by_cases za : (ofW s.L x).a = split
      · have xq := only x q h4 (.inl za)
        have h00 : (ofW s.L split).p ≠ 0 := by rw [← xq]; have := h.pos' q; omega
        rw [(ab x q).1, (ab x q).2, if_pos ⟨h00, xq, za⟩, if_neg (fun t => t.2.2.1 za), v.pair]
        refine ⟨(v.has _).2 (.inr (.inr rfl)), (v.has _).2 (.inl k2), fun t => t2.2.1 t.symm, xq.symm, ?_⟩
        rw [pp _ k2, if_neg (fun t => k3 (by rw [za, t]))]
        exact k5
      · by_cases zb : (ofW s.L x).b = split
        · have xq := only x q h4 (.inr zb)
          have h00 : (ofW s.L split).p ≠ 0 := by rw [← xq]; have := h.pos' q; omega
          rw [(ab x q).1, (ab x q).2, if_neg (fun t => za t.2.2), if_pos ⟨h00, xq, za, zb⟩, v.pair]
          refine ⟨(v.has _).2 (.inl k1), (v.has _).2 (.inr (.inr rfl)), t1.2.1, ?_, xq.symm⟩
          rw [pp _ k1, if_neg za]
          exact k4
        · rw [(ab x q).1, (ab x q).2, if_neg (fun t => za t.2.2), if_neg (fun t => zb t.2.2.2)]
          refine ⟨(v.has _).2 (.inl k1), (v.has _).2 (.inl k2), k3, ?_, ?_⟩
          · rw [pp _ k1, if_neg za]; exact k4
          · rw [pp _ k2, if_neg zb]; exact k5
    · rw [v.new] at h4; change k = 4 at h4; omega
    · rw [v.pair]
      have hps : (ofW (opnL s split m sz k) split).p = s.last + 2 := by rw [pp split hx, if_pos rfl]
      have hpn : (ofW (opnL s split m sz k) (s.last + 1)).p = s.last + 2 := by rw [v.new]; rfl
      unfold opnP
      simp only
      by_cases hm2 : m % 2 = 0
      · simp only [if_pos hm2]
        exact ⟨(v.has _).2 (.inr (.inl rfl)), (v.has _).2 (.inl hx), by omega, hpn, hps⟩
      · simp only [if_neg hm2]
        exact ⟨(v.has _).2 (.inl hx), (v.has _).2 (.inr (.inl rfl)), by omega, hps, hpn⟩
  · show (if (ofW s.L split).p = 0 then s.last + 2 else s.root) = 0 ↔ (opnL s split m sz k).length = 0
    rw [hln]
    constructor
    · intro e
      exfalso
      split at e
      · omega
      · have := h.rt0.1 e
        obtain ⟨d, hd, _⟩ := hx
        exact absurd (List.length_pos_of_mem hd) (by omega)
    · intro e; omega
  · intro x hx'
    show (ofW (opnL s split m sz k) x).p = 0 ↔ x = (if (ofW s.L split).p = 0 then s.last + 2 else s.root)
    rcases (v.has x).1 hx' with q | rfl | rfl
    · rw [pp x q]
      have t := h.rt x q
      by_cases e : x = split
      · rw [if_pos e]
        constructor
        · intro z; omega
        · intro z
          split at z
          · omega
          · rename_i z2
            exact absurd ((h.rt split hx).2 (by rw [← e]; exact z)) z2
      · rw [if_neg e]
        split
        · rename_i z2
          constructor
          · intro z
            have := (h.rt split hx).1 z2
            have := t.1 z
            omega
          · intro z; have := (nx x q).2.1; omega
        · exact t
    · rw [v.new]
      show s.last + 2 = 0 ↔ _
      constructor
      · intro z; omega
      · intro z
        split at z
        · omega
        · by_cases r0 : s.root = 0
          · omega
          · have := h.top' (h.rh r0); omega
    · rw [v.pair]
      show (ofW s.L split).p = 0 ↔ _
      constructor
      · intro z; rw [if_pos z]
      · intro z
        split at z
        · rename_i z2; exact z2
        · by_cases r0 : s.root = 0
          · omega
          · have := h.top' (h.rh r0); omega
  · show (if (ofW s.L split).p = 0 then s.last + 2 else s.root) ≠ 0 → hasW (opnL s split m sz k) (if (ofW s.L split).p = 0 then s.last + 2 else s.root)
    intro z
    split
    · exact (v.has _).2 (.inr (.inr rfl))
    · rename_i z2
      rw [if_neg z2] at z
      exact (v.has _).2 (.inl (h.rh z))
  · obtain ⟨r, hr⟩ := h.rk
    refine ⟨fun x => if x = s.last + 2 then 2 * r split else if x = s.last + 1 then 2 * r split + 1 else 2 * r x + 1, fun x hx' h0 => ?_⟩
    change (ofW (opnL s split m sz k) x).p ≠ 0 at h0
    show (if (ofW (opnL s split m sz k) x).p = s.last + 2 then 2 * r split else if (ofW (opnL s split m sz k) x).p = s.last + 1 then 2 * r split + 1 else 2 * r (ofW (opnL s split m sz k) x).p + 1) < (if x = s.last + 2 then 2 * r split else if x = s.last + 1 then 2 * r split + 1 else 2 * r x + 1)
    rcases (v.has x).1 hx' with q | rfl | rfl
    · rw [pp x q] at h0 ⊢
      have t := nx x q
      rw [if_neg t.2.1, if_neg t.1]
      by_cases e : x = split
      · rw [if_pos e, if_pos rfl, e]; omega
      · rw [if_neg e] at h0 ⊢
        have p1 := (h.par x q h0).1
        have := nx _ p1
        rw [if_neg this.2.1, if_neg this.1]
        have := hr x q h0
        omega
    · rw [v.new]
      show (if s.last + 2 = s.last + 2 then 2 * r split else _) < _
      rw [if_pos rfl, if_neg (by omega), if_pos rfl]
      omega
    · rw [v.pair] at h0 ⊢
      change (ofW s.L split).p ≠ 0 at h0
      show (if (ofW s.L split).p = s.last + 2 then 2 * r split else if (ofW s.L split).p = s.last + 1 then 2 * r split + 1 else 2 * r (ofW s.L split).p + 1) < _
      have p1 := (h.par split hx h0).1
      have := nx _ p1
      rw [if_neg this.2.1, if_neg this.1, if_pos rfl]
      have := hr split hx h0
      omega
theorem iv_root {s : Ps} (h : Iv s) (hL : s.L.length = 0) (k : Int) (m sz : Int) (hk : 1 ≤ k ∧ k ≤ 3) (hl : s.last ≤ 90000) : Iv (openS s 0 m sz k) := by
  have hL0 : s.L = [] := List.length_eq_zero_iff.1 hL
  have l0 := h.l0
  have e : openS s 0 m sz k = { s with last := s.last + 1, root := s.last + 1, L := [⟨s.last + 1, k, 0, 0, 0, 0, 0, 0⟩] } := by
    unfold openS addS
    rw [if_pos rfl, hL0]
    rfl
  rw [e]
  have no : ∀ x, hasW [(⟨s.last + 1, k, 0, 0, 0, 0, 0, 0⟩ : Wd)] x → x = s.last + 1 := by
    rintro x ⟨d, hd, rfl⟩
    simp at hd
    subst hd
    rfl
  have oo : ofW [(⟨s.last + 1, k, 0, 0, 0, 0, 0, 0⟩ : Wd)] (s.last + 1) = ⟨s.last + 1, k, 0, 0, 0, 0, 0, 0⟩ := by simp [ofW]
  refine ⟨⟨⟨⟨fun i j hij hj hi => by simp at hj hi; omega⟩, by simp, fun d hd => by simp at hd; subst hd; show 0 < s.last + 1; omega⟩, by show 0 ≤ s.last + 1; omega, by show s.last + 1 ≤ 100000; omega, fun d hd => by simp at hd; subst hd; exact Int.le_refl _⟩, by simp, h.scr, ?_, ?_, ?_, ?_, ?_, ?_, by simp; omega, ?_, fun _ => ⟨_, List.mem_singleton.2 rfl, rfl⟩, ⟨fun _ => 0, ?_⟩⟩
  · intro x hx
    rw [no x hx]
    show 1 ≤ (ofW [_] (s.last + 1)).k ∧ (ofW [_] (s.last + 1)).k ≤ 4
    rw [oo]; show 1 ≤ k ∧ k ≤ 4; omega
  · intro x hx _
    rw [no x hx]
    show (ofW [_] (s.last + 1)).a = 0 ∧ (ofW [_] (s.last + 1)).b = 0 ∧ (ofW [_] (s.last + 1)).m = 0 ∧ (ofW [_] (s.last + 1)).s = 0 ∧ (ofW [_] (s.last + 1)).key = 0
    rw [oo]; exact ⟨rfl, rfl, rfl, rfl, rfl⟩
  · intro x hx h4
    rw [no x hx] at h4
    change (ofW [_] (s.last + 1)).k = 4 at h4
    rw [oo] at h4; change k = 4 at h4; omega
  · intro x hx
    rw [no x hx]
    left
    show (ofW [_] (s.last + 1)).key = 0
    rw [oo]
  · intro x hx h0
    rw [no x hx] at h0
    change (ofW [_] (s.last + 1)).p ≠ 0 at h0
    rw [oo] at h0; exact absurd rfl h0
  · intro x hx h4
    rw [no x hx] at h4
    change (ofW [_] (s.last + 1)).k = 4 at h4
    rw [oo] at h4; change k = 4 at h4; omega
  · intro x hx
    rw [no x hx]
    show (ofW [_] (s.last + 1)).p = 0 ↔ s.last + 1 = s.last + 1
    rw [oo]; exact ⟨fun _ => rfl, fun _ => rfl⟩
  · intro x hx h0
    rw [no x hx] at h0
    change (ofW [_] (s.last + 1)).p ≠ 0 at h0
    rw [oo] at h0; exact absurd rfl h0
end Go.Proofs.Ytilfgbcbodjegaa
