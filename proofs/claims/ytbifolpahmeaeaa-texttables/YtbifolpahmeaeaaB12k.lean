/- Contract of package text's Plain. -/
import Derived.Test.YtbifolpahmeaeaaB12j
namespace Go.Proofs.Ytbifolpahmeaeaa
open Go.RowKit
set_option maxHeartbeats 1000000
set_option maxRecDepth 100000
set_option linter.unusedVariables false

/-- how Plain runs, piece by piece: so far the characters l, at the place t, behind em pieces without characters -/
inductive PlRun (N : Ta → Nx) (most : Nat) : List Nat → Ta → Nat → List Nat → Bool → Nat → Prop
  | out {l t em} : 256 < em → PlRun N most l t em l false 0
  | err {l t em} : em ≤ 256 → (N t).e ≠ 0 → PlRun N most l t em [] false (N t).e
  | fin {l t em} : em ≤ 256 → (N t).e = 0 → (N t).k = 1 → PlRun N most l t em l true 0
  | full {l t em} : em ≤ 256 → (N t).e = 0 → (N t).k ≠ 1 → l.length = most → PlRun N most l t em l false 0
  | ref {l t em} : em ≤ 256 → (N t).e = 0 → (N t).k ≠ 1 → l.length ≠ most → (N t).k = 3 → PlRun N most l t em [] false 5
  | cut {l t em} : em ≤ 256 → (N t).e = 0 → (N t).k ≠ 1 → l.length ≠ most → (N t).k ≠ 3 → most < l.length + (N t).cs.length → PlRun N most l t em (l ++ (N t).cs.take (most - l.length)) false 0
  | emp {l t em r wh e} : em ≤ 256 → (N t).e = 0 → (N t).k ≠ 1 → l.length ≠ most → (N t).k ≠ 3 → l.length + (N t).cs.length ≤ most → (N t).cs.length = 0 → PlRun N most l (N t).t (em + 1) r wh e → PlRun N most l t em r wh e
  | more {l t em r wh e} : em ≤ 256 → (N t).e = 0 → (N t).k ≠ 1 → l.length ≠ most → (N t).k ≠ 3 → l.length + (N t).cs.length ≤ most → (N t).cs.length ≠ 0 → PlRun N most (l ++ (N t).cs) (N t).t 0 r wh e → PlRun N most l t em r wh e
theorem dsR_tok {zs : List Int} : ∀ {f node : Nat} {t : Ta}, t.ok → t.bit ≤ 7 → (dsR zs f node t).2.2.ok
  | f, node, t, h, hb => by
    have h0 : ta0.ok := ⟨by decide, by decide, by decide⟩
    unfold dsR
    by_cases h1 : node + 1 ≤ zs.length
    · rw [if_pos h1]
      by_cases h2 : nuV zs node 1 ≠ 0
      · rw [if_pos h2]; exact h
      · rw [if_neg h2]
        match f with
        | 0 => exact h0
        | f + 1 =>
          simp only
          by_cases h3 : t.ad + 1 ≤ zs.length
          · rw [if_pos h3]
            by_cases h4 : node + 1 + 4 * bitV zs t + 4 ≤ zs.length
            · rw [if_pos h4]
              exact dsR_tok (bhd_ok h hb).1 (bhd_ok h hb).2
            · rw [if_neg h4]; exact h0
          · rw [if_neg h3]; exact h0
    · rw [if_neg h1]; exact h0
theorem plN_ok {zs : List Int} {t : Ta} {n : Nat} (h : t.ok) (hl : zs.length ≤ 2000000) : (plN zs t n).t.ok := by
  refine ⟨h.1, ?_, by show (0 : Nat) < _; omega⟩
  show tkP zs t.ad 0 n < 4294967296
  unfold tkP
  split
  · rename_i h1
    by_cases h2 : t.ad + n ≤ zs.length
    · omega
    · rw [tkE_no h2] at h1; omega
  · exact h.2.1
theorem nxN_ok {zs : List Int} {table : Nat} {t : Ta} (h : t.ok) (hl : zs.length ≤ 2000000) : (nxN zs table t).t.ok := by
  have h0 : ta0.ok := ⟨by decide, by decide, by decide⟩
  unfold nxN
  split
  · exact plN_ok h hl
  · split
    · exact plN_ok h hl
    · split
      · unfold pkN
        split
        · exact h0
        · split
          · split
            · rename_i hb
              split
              · exact dsR_tok h hb
              · exact h0
            · exact h0
          · exact h0
      · exact h0
/-- what Plain answers, behind Begin's answer -/
def PlR (zs : List Int) (table addr most : Nat) (r : List Nat) (wh : Bool) (e : Nat) : Prop :=
  ((bgN zs addr).1 ≠ 0 ∧ r = [] ∧ wh = false ∧ e = (bgN zs addr).1) ∨ ((bgN zs addr).1 = 0 ∧ PlRun (nxN zs table) most [] (bgN zs addr).2 0 r wh e)
def PlRet (w : World) (R : List Nat → Bool → Nat → Prop) (x : Ending) (w' : World) : Prop :=
  ∃ r wh e a' c', x = .returned (.tuple #[.slice a' r.length c', .bool wh, .int .i64 (e : Nat)]) ∧ R r wh e ∧ w'.ownsRow w.heap.size 22 1 (.slice a' r.length c') r.length (u32V r) ∧ Below w.heap.size w w' ∧ (∀ x ∈ r, x < 4294967296)
theorem prt_yes {w w' : World} {N : Nx} {r : Ending} (h : PRet w N r w') (hE : N.e = 0) : ∃ ca cc ad ra rn rc, r = .returned (.tuple #[.agg #[.int .i64 N.k, .slice ca N.cs.length cc, .int .u32 ad, .slice ra rn rc], .agg #[.int .i64 N.t.k, .int .u32 N.t.ad, .int .u32 N.t.bit], .int .i64 0]) ∧ Below w.heap.size w w' ∧ VRow w' ca N.cs.length N.cs ∧ (N.cs.length ≤ cc ∧ (N.cs.length = 0 → ca = none ∧ cc = 0)) ∧ (0 < N.cs.length → ∀ x, ca = some x → w.heap.size ≤ x.block) := by
  obtain ⟨k1, ca, cn, cc, ad, ra, rn, rc, k', ad', bit', rfl, hb1, hok1⟩ := h
  obtain ⟨rfl, rfl, o3, o4, o5, rfl, rfl, rfl⟩ := hok1 hE
  rw [hE]
  exact ⟨ca, cc, ad, ra, rn, rc, rfl, hb1, o3, o4, o5⟩
theorem prt_err {w w' : World} {N : Nx} {r : Ending} (h : PRet w N r w') : ∃ k1 ca cn cc ad ra rn rc k' ad' bit', r = .returned (.tuple #[.agg #[.int .i64 k1, .slice ca cn cc, .int .u32 ad, .slice ra rn rc], .agg #[.int .i64 k', .int .u32 ad', .int .u32 bit'], .int .i64 N.e]) ∧ Below w.heap.size w w' := by
  obtain ⟨k1, ca, cn, cc, ad, ra, rn, rc, k', ad', bit', rfl, hb1, hok1⟩ := h
  exact ⟨k1, ca, cn, cc, ad, ra, rn, rc, k', ad', bit', rfl, hb1⟩
theorem own32_ne {B : Nat} {w : World} {v : Value} {n h : Nat} {xs : List Value} {cs : Array Value} {e : TypeId} (ho : w.ownsRow B 22 1 v n xs) (hh : w.heap[h]? = some (.cells cs e (0, 0))) (he : e ≠ 22) : v.ownBlock ≠ some h := by
  rcases ho.2 with ⟨rfl, _⟩ | ⟨g, cap, cur, rfl, _, hg, _⟩
  · intro e; cases e
  · intro e'
    simp only [Value.ownBlock, Option.some.injEq] at e'
    subst e'
    rw [hg] at hh
    simp at hh
    exact he hh.2.symm
theorem VRow.take {w : World} {ca : Option Addr} {m : Nat} {xs : List Nat} (h : VRow w ca m xs) (k : Nat) (hk : k ≤ m) : VRow w ca k (xs.take k) := by
  refine ⟨by rw [List.length_take, h.ln]; omega, fun x hx => h.bd x (List.mem_of_mem_take hx), fun i hi => ?_⟩
  obtain ⟨b, o, e, hc⟩ := h.cells i (by omega)
  refine ⟨b, o, e, ?_⟩
  rw [hc]
  simp [List.getD_eq_getElem?_getD, hi]
theorem tplainT_any (m : Int) (addr table : Nat) (a : Option Addr) (n c : Nat) (zs : List Int) (w : World) (hm : Mem w a n c zs) (ha : addr < 4294967296) (htl : table < 4294967296) (hmm : m ≤ 100000) (hm0 : -9223372036854775808 ≤ m) :
    Calls Try.prog 15 #[.slice a n c, .int .u32 table, .int .u32 addr, .int .i64 m] w (PlRet w (PlR zs table addr m.toNat)) := by
  have HM := hidden hm
  have hle := hm.le
  have hl := hm.len
  have HBG := hidden (tbegin_any addr a n c zs w hm ha)
  have HGOK : Hid ((bgN zs addr).2.ok) := by
    have h0 : ta0.ok := ⟨by decide, by decide, by decide⟩
    show Ta.ok _
    unfold bgN
    split
    · split
      · exact ⟨by simp, by simp only; omega, by simp⟩
      · split
        · exact ⟨by simp, by simp only; omega, by simp⟩
        · split
          · exact ⟨by simp, by simp only; omega, by simp⟩
          · exact h0
    · exact h0
  have HPE : Hid ((bgN zs addr).1 ≠ 0 → PlR zs table addr m.toNat [] false (bgN zs addr).1) := fun h => .inl ⟨h, rfl, rfl, rfl⟩
  have HPL : Hid (∀ r wh e, (bgN zs addr).1 = 0 → PlRun (nxN zs table) m.toNat [] (bgN zs addr).2 0 r wh e → PlR zs table addr m.toNat r wh e) := fun r wh e h1 h2 => .inr ⟨h1, h2⟩
  obtain ⟨G, hG⟩ : ∃ G, G = bgN zs addr := ⟨_, rfl⟩
  rw [← hG] at HBG HGOK HPE HPL
  clear hG hm
  obtain ⟨EG, t⟩ := G
  simp only at HGOK HPE HPL
  generalize hPQ : PlR zs table addr m.toNat = PQ at *
  clear hPQ
  unfold GRet at HBG
  simp only at HBG
  by_cases hEG : EG = 0
  · subst hEG
    by_cases hneg : m < 0
    · have hM0 : m.toNat = 0 := by omega
      rw [hM0] at HPL
      go_enter Try.func15, Try.ntmps15
      go_upto_region 6 with (first | (go_at_call 28; refine HBG.out.mono ?_; rintro r w1 ⟨rfl, hb1⟩; have HB1 := hidden hb1; clear hb1))
      have HA2 : Hid (ABox (w1.alloc (.cells #[.int .i64 t.k, .int .u32 t.ad, .int .u32 t.bit] 46)) w1.heap.size t.k t.ad t.bit) := ab_new w1 t.k t.ad t.bit
      have HB2 : Hid (Below w.heap.size w (w1.alloc (.cells #[.int .i64 t.k, .int .u32 t.ad, .int .u32 t.bit] 46))) := HB1.out.alloc HB1.out.size _
      generalize w1.alloc (.cells #[.int .i64 t.k, .int .u32 t.ad, .int .u32 t.bit] 46) = w2 at *
      clear HB1 HBG
      generalize w1.heap.size = q at *
      have HPP : Hid (∀ r wh e, PlRun (nxN zs table) 0 [] t 0 r wh e → PQ r wh e) := fun r wh e h => HPL.out r wh e (by first | trivial | rfl) h
      clear HPL
      go_loopw [8, 12] (fun v em wr => v = .slice none 0 0 ∧ em = .int .i64 0 ∧ wr = w2) (fun _ _ _ => 0)
      case atStart => exact ⟨rfl, rfl, rfl⟩
      case round =>
        obtain ⟨rfl, rfl, rfl⟩ := hrel
        obtain ⟨a0, a1, a2, -⟩ := ab_box HA2.out
        have HNX := hidden (tnext_any t table a n c zs wr (HM.out.later HB2.out) HGOK.out htl)
        obtain ⟨N, hN⟩ : ∃ N, N = nxN zs table t := ⟨_, rfl⟩
        rw [← hN] at HNX
        have HN := hidden hN
        clear hN
        by_cases hE : N.e = 0
        · have HNY : Hid (Calls Try.prog 16 #[.slice a n c, .int .u32 table, .agg #[.int .i64 t.k, .int .u32 t.ad, .int .u32 t.bit]] wr fun r w' => ∃ ca cc ad ra rn rc, r = .returned (.tuple #[.agg #[.int .i64 N.k, .slice ca N.cs.length cc, .int .u32 ad, .slice ra rn rc], .agg #[.int .i64 N.t.k, .int .u32 N.t.ad, .int .u32 N.t.bit], .int .i64 0]) ∧ Below wr.heap.size wr w' ∧ VRow w' ca N.cs.length N.cs ∧ (N.cs.length ≤ cc ∧ (N.cs.length = 0 → ca = none ∧ cc = 0)) ∧ (0 < N.cs.length → ∀ x, ca = some x → wr.heap.size ≤ x.block)) := HNX.out.mono (fun r w' hh => prt_yes hh hE)
          have HEQ := hidden (HN.out ▸ hE : (nxN zs table t).e = 0)
          clear HNX hE
          by_cases hk1 : N.k = 1
          · have HCON : Hid (PlRun (nxN zs table) 0 [] t 0 [] true 0) := .fin (by omega) HEQ.out (by rw [← HN.out]; exact hk1)
            rw [hk1] at HNY
            have e1 : ((1 : Nat) : Int) = 1 := rfl
            rw [e1] at HNY
            go_wp2_with (first | (go_at_call 16; refine HNY.out.mono ?_; rintro r w3 ⟨ca, cc, ad, ra, rn, rc, rfl, hb3, -, -, -⟩; have HB3 := hidden (HB2.out.trans (hb3.mono HB2.out.size)); clear hb3))
            go_ret3
            exact ⟨[], true, 0, none, 0, rfl, HPP.out _ _ _ HCON.out, World.ownsRow_nil _ _ _ _, (HB3.out.alloc HB3.out.size _).alloc (by have := HB3.out.size; simp; omega) _, fun x hx => by simp at hx⟩
          · have HCON : Hid (PlRun (nxN zs table) 0 [] t 0 [] false 0) := .full (by omega) HEQ.out (by rw [← HN.out]; exact hk1) rfl
            have k1 : ((N.k : Int) == 1) = false := by simp; omega
            go_wp2_with (first | (go_at_call 16; refine HNY.out.mono ?_; rintro r w3 ⟨ca, cc, ad, ra, rn, rc, rfl, hb3, -, -, -⟩; have HB3 := hidden (HB2.out.trans (hb3.mono HB2.out.size)); clear hb3))
            go_ret3
            exact ⟨[], false, 0, none, 0, rfl, HPP.out _ _ _ HCON.out, World.ownsRow_nil _ _ _ _, (HB3.out.alloc HB3.out.size _).alloc (by have := HB3.out.size; simp; omega) _, fun x hx => by simp at hx⟩
        · have HNY : Hid (Calls Try.prog 16 #[.slice a n c, .int .u32 table, .agg #[.int .i64 t.k, .int .u32 t.ad, .int .u32 t.bit]] wr fun r w' => ∃ k1 ca cn cc ad ra rn rc k' ad' bit', r = .returned (.tuple #[.agg #[.int .i64 k1, .slice ca cn cc, .int .u32 ad, .slice ra rn rc], .agg #[.int .i64 k', .int .u32 ad', .int .u32 bit'], .int .i64 N.e]) ∧ Below wr.heap.size wr w') := HNX.out.mono (fun r w' hh => prt_err hh)
          have HCON : Hid (PlRun (nxN zs table) 0 [] t 0 [] false N.e) := by
            have h := PlRun.err (N := nxN zs table) (most := 0) (l := []) (t := t) (em := 0) (by omega) (by rw [← HN.out]; exact hE)
            rw [← HN.out] at h
            exact h
          have hE2 : ((N.e : Int) == 0) = false := by simp; omega
          have hE3 : ¬ (N.e : Int) = 0 := by omega
          clear HNX
          go_wp2_with (first | (go_at_call 16; refine HNY.out.mono ?_; rintro r w3 ⟨k1, ca, cn, cc, ad, ra, rn, rc, k', ad', bit', rfl, hb3⟩; have HB3 := hidden (HB2.out.trans (hb3.mono HB2.out.size)); clear hb3))
          go_ret3
          exact ⟨[], false, N.e, none, 0, rfl, HPP.out _ _ _ HCON.out, World.ownsRow_nil _ _ _ _, (HB3.out.alloc HB3.out.size _).alloc (by have := HB3.out.size; simp; omega) _, fun x hx => by simp at hx⟩
    · obtain ⟨M, rfl⟩ := Int.eq_ofNat_of_zero_le (show 0 ≤ m by omega)
      have hMM : ((M : Int)).toNat = M := by omega
      rw [hMM] at HPL
      have hmB : M ≤ 100000 := by omega
      have hng : ¬ (M : Int) < 0 := by omega
      clear hMM hneg hmm hm0
      go_enter Try.func15, Try.ntmps15
      go_upto_region 6 with (first | (go_at_call 28; refine HBG.out.mono ?_; rintro r w1 ⟨rfl, hb1⟩; have HB1 := hidden hb1; clear hb1))
      have HA2 : Hid (ABox (w1.alloc (.cells #[.int .i64 t.k, .int .u32 t.ad, .int .u32 t.bit] 46)) w1.heap.size t.k t.ad t.bit) := ab_new w1 t.k t.ad t.bit
      have HB2 : Hid (Below w.heap.size w (w1.alloc (.cells #[.int .i64 t.k, .int .u32 t.ad, .int .u32 t.bit] 46))) := HB1.out.alloc HB1.out.size _
      have HQ2 : Hid (w.heap.size ≤ w1.heap.size) := HB1.out.size
      generalize w1.alloc (.cells #[.int .i64 t.k, .int .u32 t.ad, .int .u32 t.bit] 46) = w2 at *
      clear HB1 HBG
      generalize w1.heap.size = q at *
      go_loopw [8, 12] (fun v em wr => ∃ (xs : List Nat) (u : Ta) (k : Nat) (a' : Option Addr) (ql c' : Nat), v = .slice a' ql c' ∧ em = .int .i64 k ∧ k ≤ 257 ∧ ql ≤ M ∧ Hid (ql = xs.length) ∧ Hid (u.ok) ∧ Hid (∀ x ∈ xs, x < 4294967296) ∧ Hid (wr.ownsRow w.heap.size 22 1 (.slice a' ql c') ql (u32V xs)) ∧ Hid (ABox wr q u.k u.ad u.bit) ∧ Hid (Below w.heap.size w wr) ∧ Hid (∀ r wh e, PlRun (nxN zs table) M xs u k r wh e → PQ r wh e)) (fun v em _ => (M - (match v with | .slice _ l _ => l | _ => 0)) * 300 + (257 - (intOf em).toNat))
      case atStart => exact ⟨[], t, 0, none, 0, 0, rfl, rfl, by omega, by omega, rfl, HGOK, (fun x hx => by simp at hx), World.ownsRow_nil _ _ _ _, HA2, HB2, fun r wh e h => HPL.out r wh e (by first | trivial | rfl) h⟩
      case round =>
        clear HA2 HB2
        obtain ⟨xs, u, k, a', ql, c', rfl, rfl, hk, hql, HQL, HU, HXB, HO, HA, HB, HP⟩ := hrel
        by_cases hk2 : 256 < k
        · have d1 : ¬ (k : Int) ≤ 256 := by omega
          go_wp2
          go_ret3
          have hx := HQL.out
          subst hx
          exact ⟨xs, false, 0, a', c', rfl, HP.out _ _ _ (.out hk2), HO.out, HB.out, HXB.out⟩
        have d1 : (k : Int) ≤ 256 := by omega
        have hk3 : k ≤ 256 := by omega
        obtain ⟨a0, a1, a2, af⟩ := ab_box HA.out
        have HNX := hidden (tnext_any u table a n c zs wr (HM.out.later HB.out) HU.out htl)
        have HUN := hidden (nxN_ok (zs := zs) (table := table) HU.out (by omega))
        have HNN : Hid (∀ r wh e, PlRun (nxN zs table) M xs u k r wh e → PQ r wh e) := HP
        obtain ⟨N, hN⟩ : ∃ N, N = nxN zs table u := ⟨_, rfl⟩
        rw [← hN] at HNX HUN
        have HN := hidden hN
        clear hN
        by_cases hE : N.e = 0
        · have HNY : Hid (Calls Try.prog 16 #[.slice a n c, .int .u32 table, .agg #[.int .i64 u.k, .int .u32 u.ad, .int .u32 u.bit]] wr fun r w' => ∃ ca cc ad ra rn rc, r = .returned (.tuple #[.agg #[.int .i64 N.k, .slice ca N.cs.length cc, .int .u32 ad, .slice ra rn rc], .agg #[.int .i64 N.t.k, .int .u32 N.t.ad, .int .u32 N.t.bit], .int .i64 0]) ∧ Below wr.heap.size wr w' ∧ VRow w' ca N.cs.length N.cs ∧ (N.cs.length ≤ cc ∧ (N.cs.length = 0 → ca = none ∧ cc = 0)) ∧ (0 < N.cs.length → ∀ x, ca = some x → wr.heap.size ≤ x.block)) := HNX.out.mono (fun r w' hh => prt_yes hh hE)
          clear HNX
          have HE := hidden hE
          clear hE
          go_upto_region 9 with (first | (go_at_call 16; refine HNY.out.mono ?_; rintro r w3 ⟨ca, cc, ad, ra, rn, rc, rfl, hb3, hv3, hz3, -⟩; have HB3 := hidden hb3; have HV3 := hidden hv3; have HZ3 := hidden hz3; clear hb3 hv3 hz3))
          have HPX := hidden ((pb_new w3 (.int .i64 N.k) (.slice ca N.cs.length cc) (.int .u32 ad) (.slice ra rn rc)).later (al_below _ (.cells #[.int .i64 N.t.k, .int .u32 N.t.ad, .int .u32 N.t.bit] 46)))
          have HTX := hidden (ab_new (w3.alloc (.cells #[.int .i64 N.k, .slice ca N.cs.length cc, .int .u32 ad, .slice ra rn rc] 44)) N.t.k N.t.ad N.t.bit)
          rw [World.size_alloc] at HTX
          have hbb : Below w3.heap.size w3 ((w3.alloc (.cells #[.int .i64 N.k, .slice ca N.cs.length cc, .int .u32 ad, .slice ra rn rc] 44)).alloc (.cells #[.int .i64 N.t.k, .int .u32 N.t.ad, .int .u32 N.t.bit] 46)) := (al_below _ _).alloc (by simp) _
          have HV4 := hidden (HV3.out.later hbb)
          have hbr := HB3.out.trans (hbb.mono HB3.out.size)
          have HA4 := hidden (HA.out.later hbr)
          have HO4 := hidden (own_later HO.out hbr)
          have HB4 := hidden (HB.out.trans (hbr.mono HB.out.size))
          have HQR : Hid (q < w3.heap.size) := by have := HA.out.lt; have := HB3.out.size; show _ < _; omega
          clear HV3 HA HO HB hbb hbr HB3 a0 a1 a2 af HNY
          generalize (w3.alloc (.cells #[.int .i64 N.k, .slice ca N.cs.length cc, .int .u32 ad, .slice ra rn rc] 44)).alloc (.cells #[.int .i64 N.t.k, .int .u32 N.t.ad, .int .u32 N.t.bit] 46) = w4 at *
          have HQ1 : Hid (q < w3.heap.size) := HQR.out
          generalize w3.heap.size = q1 at *
          obtain ⟨p0, p1, -, -, -⟩ := pb_box HPX.out
          obtain ⟨⟨hcc, HZZ⟩⟩ : Nonempty (N.cs.length ≤ cc ∧ Hid (N.cs.length = 0 → ca = none ∧ cc = 0)) := ⟨HZ3.out⟩
          have HEQ := hidden (HN.out ▸ HE.out : (nxN zs table u).e = 0)
          by_cases hk1 : N.k = 1
          · have HCON : Hid (PlRun (nxN zs table) M xs u k xs true 0) := .fin hk3 HEQ.out (by rw [← HN.out]; exact hk1)
            rw [hk1] at p0
            have p0' : w4.cell? ⟨q1, 0, none⟩ = some (.int .i64 1) := p0
            clear p0
            go_wp2
            go_ret3
            have hx := HQL.out
            subst hx
            exact ⟨xs, true, 0, a', c', rfl, HP.out _ _ _ HCON.out, HO4.out, HB4.out, HXB.out⟩
          have k1 : ((N.k : Int) == 1) = false := by simp; omega
          by_cases hfull : ql = M
          · have HCON : Hid (PlRun (nxN zs table) M xs u k xs false 0) := .full hk3 HEQ.out (by rw [← HN.out]; exact hk1) (by have := HQL.out; omega)
            subst hfull
            go_wp2
            go_ret3
            have hx := HQL.out
            rw [hx] at HO4 ⊢
            exact ⟨xs, false, 0, a', c', rfl, HP.out _ _ _ HCON.out, HO4.out, HB4.out, HXB.out⟩
          have k2 : ((ql : Int) == (M : Int)) = false := by simp; omega
          have k2' : ¬ (ql : Int) = (M : Int) := by omega
          by_cases hk3' : N.k = 3
          · have HCON : Hid (PlRun (nxN zs table) M xs u k [] false 5) := .ref hk3 HEQ.out (by rw [← HN.out]; exact hk1) (by have := HQL.out; omega) (by rw [← HN.out]; exact hk3')
            rw [hk3'] at p0 k1
            have p0' : w4.cell? ⟨q1, 0, none⟩ = some (.int .i64 3) := p0
            clear p0
            go_wp2
            go_ret3
            exact ⟨[], false, 5, none, 0, rfl, HP.out _ _ _ HCON.out, World.ownsRow_nil _ _ _ _, HB4.out, fun x hx => by simp at hx⟩
          have k3 : ((N.k : Int) == 3) = false := by simp; omega
          have hws : IntKind.i64.wrap ((M : Int) - (ql : Int)) = ((M - ql : Nat) : Int) := by rw [IntKind.wrap_i64]; omega
          by_cases hcut : M < ql + N.cs.length
          · have HCON : Hid (PlRun (nxN zs table) M xs u k (xs ++ N.cs.take (M - ql)) false 0) := by
              have h := PlRun.cut (N := nxN zs table) (most := M) (l := xs) (t := u) (em := k) hk3 HEQ.out (by rw [← HN.out]; exact hk1) (by have := HQL.out; omega) (by rw [← HN.out]; exact hk3') (by rw [← HN.out]; have := HQL.out; omega)
              rw [← HN.out, ← HQL.out] at h
              exact h
            have d2 : ((M - ql : Nat) : Int) < (N.cs.length : Int) := by omega
            have d3 : (0 : Int) ≤ ((M - ql : Nat) : Int) := by omega
            have d4 : ((M - ql : Nat) : Int) ≤ (cc : Int) := by omega
            have HBW : Hid (w.heap.size ≤ w4.heap.size) := HB4.out.size
            have HVT := hidden (HV4.out.take (M - ql) (by omega))
            have HQM : Hid (ql + (M - ql) = (xs ++ N.cs.take (M - ql)).length) := by have := HQL.out; show _ = _; simp; omega
            have HLT : Hid (∀ x ∈ xs ++ N.cs.take (M - ql), x < 4294967296) := fun x hx => by
              rcases List.mem_append.1 hx with h | h
              · exact HXB.out x h
              · exact HVT.out.bd x h
            have hmq : 0 < M - ql := by omega
            have hmq2 : M - ql ≤ 100000 := by omega
            generalize M - ql = J at *
            go_wp2_with (first | (at_builtin; refine wpList_app32 rfl _ _ rfl w.heap.size ql c' J cc a' ca xs (N.cs.take J) rfl rfl HO4.out HVT.out (fun h => by omega) (by omega) HBW.out ?_; intro a5 c5 w5 ho5 f5; have HO5 := hidden ho5; have HB5 := hidden (HB4.out.trans (f5.out.below HBW.out (fun k e => (HO4.out.lt k e).1))); clear ho5 f5))
            go_ret3
            have hx := HQM.out
            rw [hx] at HO5 ⊢
            exact ⟨_, false, 0, a5, c5, rfl, HP.out _ _ _ HCON.out, HO5.out, HB5.out, HLT.out⟩
          by_cases hemp : N.cs.length = 0
          · have HCON : Hid (∀ r wh e, PlRun (nxN zs table) M (xs ++ N.cs) N.t (k + 1) r wh e → PQ r wh e) := fun r wh e h => HP.out r wh e (by
              rw [List.eq_nil_of_length_eq_zero hemp, List.append_nil, HN.out] at h
              exact .emp hk3 HEQ.out (by rw [← HN.out]; exact hk1) (by have := HQL.out; omega) (by rw [← HN.out]; exact hk3') (by rw [← HN.out]; have := HQL.out; omega) (by rw [← HN.out]; exact hemp) h)
            have d3 : ((N.cs.length : Int) == 0) = true := by rw [hemp]; rfl
            have d4 : (N.cs.length : Int) = 0 := by omega
            have hwk : IntKind.i64.wrap ((k : Int) + 1) = ((k + 1 : Nat) : Int) := by rw [IntKind.wrap_i64]; omega
            have d2 : ¬ ((M - ql : Nat) : Int) < (N.cs.length : Int) := by omega
            have HBW : Hid (w.heap.size ≤ w4.heap.size) := HB4.out.size
            have HQM : Hid (ql + N.cs.length = (xs ++ N.cs).length) := by have := HQL.out; show _ = _; simp; omega
            have HLT : Hid (∀ x ∈ xs ++ N.cs, x < 4294967296) := fun x hx => by
              rcases List.mem_append.1 hx with h | h
              · exact HXB.out x h
              · exact HV4.out.bd x h
            have HNXT : Hid (∀ (a5 : Option Addr) (c5 : Nat) (w5 : World), w5.ownsRow w.heap.size 22 1 (.slice a5 (ql + N.cs.length) c5) (ql + N.cs.length) (u32V (xs ++ N.cs)) → Fm w4 w5 (fun k => (Value.slice a' ql c').ownBlock = some k) (fun k => (Value.slice a5 (ql + N.cs.length) c5).ownBlock = some k) → ABox w5 (q1 + 1) N.t.k N.t.ad N.t.bit ∧ ABox w5 q u.k u.ad u.bit ∧ Hid (ABox (set3 w5 q (.int .i64 N.t.k) (.int .u32 N.t.ad) (.int .u32 N.t.bit)) q N.t.k N.t.ad N.t.bit ∧ (set3 w5 q (.int .i64 N.t.k) (.int .u32 N.t.ad) (.int .u32 N.t.bit)).ownsRow w.heap.size 22 1 (.slice a5 (ql + N.cs.length) c5) (ql + N.cs.length) (u32V (xs ++ N.cs)) ∧ Below w.heap.size w (set3 w5 q (.int .i64 N.t.k) (.int .u32 N.t.ad) (.int .u32 N.t.bit)))) := fun a5 c5 w5 ho f => by
              have h1 : ABox w5 (q1 + 1) N.t.k N.t.ad N.t.bit := (f.block _ HTX.out.lt (own32_ne HO4.out HTX.out (by decide))).trans HTX.out
              have h2 : ABox w5 q u.k u.ad u.bit := (f.block _ HA4.out.lt (own32_ne HO4.out HA4.out (by decide))).trans HA4.out
              have hb5 := HB4.out.trans (f.below HBW.out (fun k e => (HO4.out.lt k e).1))
              have hfr : FR q w5 (set3 w5 q (.int .i64 N.t.k) (.int .u32 N.t.ad) (.int .u32 N.t.bit)) := (((FR.refl q w5).set q 0 _ rfl).set q 1 _ rfl).set q 2 _ rfl
              refine ⟨h1, h2, ab_set h2 _ _ _, own8_fm hfr ho (fun j e1 e2 => own32_ne ho h2 (by decide) (e2 ▸ e1)), ?_⟩
              exact ((hb5.setCell HQ2.out _).setCell HQ2.out _).setCell HQ2.out _
            have hcl : N.cs.length ≤ 100000 := by omega
            have hq1 : ¬ q1 + 1 = q := by
              intro e
              have h1 := HTX.out
              have h2 := HA4.out
              have := HQ1.out
              omega
            have hq2 : ¬ q = q1 + 1 := fun e => hq1 e.symm
            have HEM := hidden hemp
            clear hemp d4
            go_wp2_with (first | (at_builtin; refine wpList_app32 rfl _ _ rfl w.heap.size ql c' N.cs.length cc a' ca xs N.cs rfl rfl HO4.out HV4.out HZZ.out (by omega) HBW.out ?_; intro a5 c5 w5 ho5 f5; obtain ⟨t5, u5, HF5⟩ := HNXT.out a5 c5 w5 ho5 f5.out; obtain ⟨m0, m1, m2, -⟩ := ab_box t5; obtain ⟨g0, g1, g2, gf⟩ := ab_box u5; have gf0 := gf 0; have gf1 := gf 1; have gf2 := gf 2; clear ho5 f5 t5 u5 gf))
            go_roundw
            case rel => exact ⟨xs ++ N.cs, N.t, k + 1, a5, ql + N.cs.length, c5, rfl, rfl, by omega, by omega, HQM, HUN, HLT, HF5.out.2.1, HF5.out.1, HF5.out.2.2, HCON⟩
            case measure => have := HEM.out; simp [intOf]; omega
          · have HCON : Hid (∀ r wh e, PlRun (nxN zs table) M (xs ++ N.cs) N.t 0 r wh e → PQ r wh e) := fun r wh e h => HP.out r wh e (by
              rw [HN.out] at h
              exact .more hk3 HEQ.out (by rw [← HN.out]; exact hk1) (by have := HQL.out; omega) (by rw [← HN.out]; exact hk3') (by rw [← HN.out]; have := HQL.out; omega) (by rw [← HN.out]; exact hemp) h)
            have d3 : ((N.cs.length : Int) == 0) = false := by simp; intro e; exact hemp (by simp [e])
            have d4 : ¬ (N.cs.length : Int) = 0 := by omega
            have d2 : ¬ ((M - ql : Nat) : Int) < (N.cs.length : Int) := by omega
            have HBW : Hid (w.heap.size ≤ w4.heap.size) := HB4.out.size
            have HQM : Hid (ql + N.cs.length = (xs ++ N.cs).length) := by have := HQL.out; show _ = _; simp; omega
            have HLT : Hid (∀ x ∈ xs ++ N.cs, x < 4294967296) := fun x hx => by
              rcases List.mem_append.1 hx with h | h
              · exact HXB.out x h
              · exact HV4.out.bd x h
            have HNXT : Hid (∀ (a5 : Option Addr) (c5 : Nat) (w5 : World), w5.ownsRow w.heap.size 22 1 (.slice a5 (ql + N.cs.length) c5) (ql + N.cs.length) (u32V (xs ++ N.cs)) → Fm w4 w5 (fun k => (Value.slice a' ql c').ownBlock = some k) (fun k => (Value.slice a5 (ql + N.cs.length) c5).ownBlock = some k) → ABox w5 (q1 + 1) N.t.k N.t.ad N.t.bit ∧ ABox w5 q u.k u.ad u.bit ∧ Hid (ABox (set3 w5 q (.int .i64 N.t.k) (.int .u32 N.t.ad) (.int .u32 N.t.bit)) q N.t.k N.t.ad N.t.bit ∧ (set3 w5 q (.int .i64 N.t.k) (.int .u32 N.t.ad) (.int .u32 N.t.bit)).ownsRow w.heap.size 22 1 (.slice a5 (ql + N.cs.length) c5) (ql + N.cs.length) (u32V (xs ++ N.cs)) ∧ Below w.heap.size w (set3 w5 q (.int .i64 N.t.k) (.int .u32 N.t.ad) (.int .u32 N.t.bit)))) := fun a5 c5 w5 ho f => by
              have h1 : ABox w5 (q1 + 1) N.t.k N.t.ad N.t.bit := (f.block _ HTX.out.lt (own32_ne HO4.out HTX.out (by decide))).trans HTX.out
              have h2 : ABox w5 q u.k u.ad u.bit := (f.block _ HA4.out.lt (own32_ne HO4.out HA4.out (by decide))).trans HA4.out
              have hb5 := HB4.out.trans (f.below HBW.out (fun k e => (HO4.out.lt k e).1))
              have hfr : FR q w5 (set3 w5 q (.int .i64 N.t.k) (.int .u32 N.t.ad) (.int .u32 N.t.bit)) := (((FR.refl q w5).set q 0 _ rfl).set q 1 _ rfl).set q 2 _ rfl
              refine ⟨h1, h2, ab_set h2 _ _ _, own8_fm hfr ho (fun j e1 e2 => own32_ne ho h2 (by decide) (e2 ▸ e1)), ?_⟩
              exact ((hb5.setCell HQ2.out _).setCell HQ2.out _).setCell HQ2.out _
            have hcl : N.cs.length ≤ 100000 := by omega
            have hq1 : ¬ q1 + 1 = q := by
              intro e
              have h1 := HTX.out
              have h2 := HA4.out
              have := HQ1.out
              omega
            have hq2 : ¬ q = q1 + 1 := fun e => hq1 e.symm
            go_wp2_with (first | (at_builtin; refine wpList_app32 rfl _ _ rfl w.heap.size ql c' N.cs.length cc a' ca xs N.cs rfl rfl HO4.out HV4.out HZZ.out (by omega) HBW.out ?_; intro a5 c5 w5 ho5 f5; obtain ⟨t5, u5, HF5⟩ := HNXT.out a5 c5 w5 ho5 f5.out; obtain ⟨m0, m1, m2, -⟩ := ab_box t5; obtain ⟨g0, g1, g2, gf⟩ := ab_box u5; have gf0 := gf 0; have gf1 := gf 1; have gf2 := gf 2; clear ho5 f5 t5 u5 gf))
            go_roundw
            case rel => exact ⟨xs ++ N.cs, N.t, 0, a5, ql + N.cs.length, c5, rfl, rfl, by omega, by omega, HQM, HUN, HLT, HF5.out.2.1, HF5.out.1, HF5.out.2.2, HCON⟩
            case measure => simp [intOf]; omega
        · have HNY : Hid (Calls Try.prog 16 #[.slice a n c, .int .u32 table, .agg #[.int .i64 u.k, .int .u32 u.ad, .int .u32 u.bit]] wr fun r w' => ∃ k1 ca cn cc ad ra rn rc k' ad' bit', r = .returned (.tuple #[.agg #[.int .i64 k1, .slice ca cn cc, .int .u32 ad, .slice ra rn rc], .agg #[.int .i64 k', .int .u32 ad', .int .u32 bit'], .int .i64 N.e]) ∧ Below wr.heap.size wr w') := HNX.out.mono (fun r w' hh => prt_err hh)
          have HCON : Hid (PlRun (nxN zs table) M xs u k [] false N.e) := by
            have h := PlRun.err (N := nxN zs table) (most := M) (l := xs) (t := u) (em := k) hk3 (by rw [← HN.out]; exact hE)
            rw [← HN.out] at h
            exact h
          have hE2 : ((N.e : Int) == 0) = false := by simp; omega
          have hE3 : ¬ (N.e : Int) = 0 := by omega
          clear HNX
          go_wp2_with (first | (go_at_call 16; refine HNY.out.mono ?_; rintro r w3 ⟨k1, ca, cn, cc, ad, ra, rn, rc, k', ad', bit', rfl, hb3⟩; have HB3 := hidden (HB.out.trans (hb3.mono HB.out.size)); clear hb3))
          go_ret3
          exact ⟨[], false, N.e, none, 0, rfl, HP.out _ _ _ HCON.out, World.ownsRow_nil _ _ _ _, (HB3.out.alloc HB3.out.size _).alloc (by have := HB3.out.size; simp; omega) _, fun x hx => by simp at hx⟩
  · have hE2 : ((EG : Int) == 0) = false := by simp; omega
    have hE3 : ¬ (EG : Int) = 0 := by omega
    go_enter Try.func15, Try.ntmps15
    go_wp2_with (first | (go_at_call 28; refine HBG.out.mono ?_; rintro r w1 ⟨rfl, hb1⟩; have HB1 := hidden hb1; clear hb1))
    go_ret3
    exact ⟨[], false, EG, none, 0, rfl, HPE.out hEG, World.ownsRow_nil _ _ _ _, HB1.out.alloc HB1.out.size _, fun x hx => by simp at hx⟩
end Go.Proofs.Ytbifolpahmeaeaa
