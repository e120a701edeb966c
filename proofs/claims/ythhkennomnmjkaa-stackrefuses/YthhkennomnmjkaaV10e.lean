/- Package stack's isStack. -/
import Derived.Test.YthhkennomnmjkaaV10c
import Derived.Test.YthhkennomnmjkaaV10d
namespace Go.Proofs.Ythhkennomnmjkaa
open Go.RowKit Go.Shelf
set_option maxHeartbeats 1000000
set_option maxRecDepth 100000
set_option linter.unusedVariables false
attribute [local go_sem] Oper.semAt_some

/-- what lies about a round of isStack: the row's two boxes, the frame's, the answer's -/
structure Stk (w : World) (B : Nat) (a : Option Addr) (L c f : Nat) (W : World) : Prop where
  below : Below w.heap.size w W
  b1 : W.heap[w.heap.size]? = some (.cells #[.slice a L c] 24 (0, 0))
  b2 : ∃ z, W.heap[w.heap.size + 1]? = some (.cells #[.bool z] 4 (0, 0))
  b3 : W.heap[B]? = some (.cells #[.slice a L c] 24 (0, 0))
  b4 : W.heap[B + 1]? = some (.cells #[.int .i64 f] 3 (0, 0))
theorem Stk.later {w W W' : World} {B : Nat} {a : Option Addr} {L c f : Nat} (h : Stk w B a L c f W) (hb : Below W.heap.size W W') : Stk w B a L c f W' := by
  have hm : ∀ k o, W.heap[k]? = some o → W'.heap[k]? = some o := fun k o e => (hb.block k (Array.getElem?_eq_some_iff.1 e).1).trans e
  obtain ⟨z, hz⟩ := h.b2
  exact ⟨h.below.trans (hb.mono h.below.size), hm _ _ h.b1, ⟨z, hm _ _ hz⟩, hm _ _ h.b3, hm _ _ h.b4⟩
theorem stk_new (w : World) (a : Option Addr) (L c f : Nat) : Stk w (w.heap.size + 1 + 1) a L c f ((((w.alloc (.cells #[.slice a L c] 24)).alloc (.cells #[.bool false] 4)).alloc (.cells #[.slice a L c] 24)).alloc (.cells #[.int .i64 (f : Int)] 3)).drew := by
  have n1 := heap_alloc_new w (.cells #[.slice a L c] 24)
  generalize hw1 : w.alloc (.cells #[.slice a L c] 24) = w1 at *
  have s1 : w1.heap.size = w.heap.size + 1 := by rw [← hw1]; simp
  have b1 : Below w.heap.size w w1 := by rw [← hw1]; exact (Below.refl _ _).alloc (Nat.le_refl _) _
  have n2 := heap_alloc_new w1 (.cells #[.bool false] 4)
  have b2 : Below w1.heap.size w1 (w1.alloc (.cells #[.bool false] 4)) := (Below.refl _ _).alloc (Nat.le_refl _) _
  have s2 : (w1.alloc (.cells #[.bool false] 4)).heap.size = w1.heap.size + 1 := by simp
  generalize w1.alloc (.cells #[.bool false] 4) = w2 at *
  have n3 := heap_alloc_new w2 (.cells #[.slice a L c] 24)
  have b3 : Below w2.heap.size w2 (w2.alloc (.cells #[.slice a L c] 24)) := (Below.refl _ _).alloc (Nat.le_refl _) _
  have s3 : (w2.alloc (.cells #[.slice a L c] 24)).heap.size = w2.heap.size + 1 := by simp
  generalize w2.alloc (.cells #[.slice a L c] 24) = w3 at *
  have n4 := heap_alloc_new w3 (.cells #[.int .i64 (f : Int)] 3)
  have b4 : Below w3.heap.size w3 (w3.alloc (.cells #[.int .i64 (f : Int)] 3)) := (Below.refl _ _).alloc (Nat.le_refl _) _
  generalize w3.alloc (.cells #[.int .i64 (f : Int)] 3) = w4 at *
  have hm : ∀ {A B : World}, Below A.heap.size A B → ∀ k o, A.heap[k]? = some o → B.heap[k]? = some o := fun hb k o e => (hb.block k (Array.getElem?_eq_some_iff.1 e).1).trans e
  refine ⟨?_, ?_, ⟨false, ?_⟩, ?_, ?_⟩
  · exact (((b1.trans (b2.mono (by omega))).trans (b3.mono (by omega))).trans (b4.mono (by omega))).drew
  · exact hm b4 _ _ (hm b3 _ _ (hm b2 _ _ n1))
  · rw [← s1]; exact hm b4 _ _ (hm b3 _ _ n2)
  · rw [← s1, ← s2]; exact hm b4 _ _ n3
  · rw [← s1, ← s2, ← s3]; exact n4
/-- what is known of the frame and the end that a round is handed; what it has seen -/
def StkP (zs : List Int) (L F0 : Nat) (x : Nat × Nat) : Prop := x.2 ≤ L ∧ 16 ≤ x.2 ∧ x.1 < 4294967296 ∧ (Chn zs F0 (L - 16) ↔ Chn zs x.1 (x.2 - 16))
def StkQ (zs : List Int) (x : Nat × Nat) : Prop := x.1 % 4 = 0 ∧ (x.1 = 0 ∨ 16 ≤ x.1) ∧ IsFr zs x.1 (x.2 - 16)
def StkX (w : World) (zs : List Int) (L F0 : Nat) (W : World) : Prop := (Below w.heap.size w W ∧ W.heap[w.heap.size + 1]? = some (.cells #[.bool false] 4 (0, 0))) ∧ ¬ Chn zs F0 (L - 16)
theorem stk_put {w : World} {B N : Nat} {a : Option Addr} {L c f : Nat} (hN : w.heap.size ≤ N) : PutOk N (Stk w B a L c f) := fun W l o o' h1 h2 h3 h => by
  obtain ⟨z, hz⟩ := h.b2
  exact ⟨putOk_below hN W l o o' h1 h2 h3 h.below, putOk_block W l o o' h1 h2 h3 h.b1, ⟨z, putOk_block W l o o' h1 h2 h3 hz⟩, putOk_block W l o o' h1 h2 h3 h.b3, putOk_block W l o o' h1 h2 h3 h.b4⟩
theorem stkx_put {w : World} {N : Nat} {zs : List Int} {L F0 : Nat} (hN : w.heap.size ≤ N) : PutOk N (StkX w zs L F0) := putOk_and (putOk_and (putOk_below hN) putOk_block) (putOk_pure _)
theorem stk_next {w W : World} {B : Nat} {a : Option Addr} {L c F0 : Nat} {zs : List Int} {x : Nat × Nat} (hb : OkB zs) (h0 : x.1 ≠ 0) (hB : w.heap.size + 1 < B) (h : Stk w B a L c x.1 W ∧ StkP zs L F0 x ∧ StkQ zs x) :
    4 ≤ x.1 ∧ x.1 ≤ L ∧ x.1 < x.2 ∧ ∀ q, Stk w B a L c (nu zs (x.1 - 4)) ((W.drewN q).setCell ⟨B + 1, 0, none⟩ (.int .i64 (nu zs (x.1 - 4)))) ∧ StkP zs L F0 (nu zs (x.1 - 4), x.1) := by
  obtain ⟨hs, ⟨p1, p2, p3, p4⟩, q1, q2, q3⟩ := h
  have hbd := q3.bd
  have hlt := nu_lt hb (x.1 - 4)
  have q16 : 16 ≤ x.1 := by omega
  refine ⟨by omega, by omega, by omega, fun q => ⟨?_, by simp only; omega, q16, hlt, ?_⟩⟩
  · obtain ⟨z, hz⟩ := hs.b2
    have ho : ∀ k, k ≠ B + 1 → ((W.drewN q).setCell ⟨B + 1, 0, none⟩ (.int .i64 (nu zs (x.1 - 4)))).heap[k]? = W.heap[k]? := fun k hk => heap_setCell_other (W.drewN q) _ _ _ hk
    refine ⟨?_, (ho _ (by omega)).trans hs.b1, ⟨z, (ho _ (by omega)).trans hz⟩, (ho _ (by omega)).trans hs.b3, one_setCell (w := W.drewN q) hs.b4⟩
    have := hs.below.trans ((Dr.below (w := W) (w1 := W.drewN q) ⟨q, rfl⟩).mono hs.below.size)
    exact this.setCell (p := ⟨B + 1, 0, none⟩) (by simp; omega) _
  · rw [p4, chn_iff]
    constructor
    · rintro ⟨_, _, _, h4⟩
      rcases h4 with h4 | h4
      · exact absurd h4 h0
      · exact h4
    · intro h4
      exact ⟨q1, q2, q3, .inr h4⟩
theorem stk_ret {w W : World} {B : Nat} {a : Option Addr} {L c f F0 : Nat} {zs : List Int} (hs : Stk w B a L c f W) (hn : ¬ Chn zs F0 (L - 16)) : StkX w zs L F0 (W.setCell ⟨w.heap.size + 1, 0, none⟩ (.bool false)) := by
  obtain ⟨z, hz⟩ := hs.b2
  exact ⟨⟨hs.below.setCell (p := ⟨w.heap.size + 1, 0, none⟩) (by simp) _, one_setCell hz⟩, hn⟩
theorem stk_cell {w W : World} {B : Nat} {a : Option Addr} {L c f : Nat} (hs : Stk w B a L c f W) : ∃ z, W.cell? ⟨w.heap.size + 1, 0, none⟩ = some (.bool z) ∧ W.frozen? ⟨w.heap.size + 1, 0, none⟩ = false := by
  obtain ⟨z, hz⟩ := hs.b2
  exact ⟨z, cell_of_one hz, free_of_one hz⟩
theorem keeps_below {W W' : World} (hb : Below W.heap.size W W') : KeepsOthers W W' := ⟨hb.size, fun k o hk _ => (hb.block k (Array.getElem?_eq_some_iff.1 hk).1).trans hk⟩
theorem kisstk_few (a : Option Addr) (L c : Nat) (zs : List Int) (w : World) (h : Reads w a L c zs) (hL : L ≤ 2000000) (hf : ¬ (L % 4 = 0 ∧ 16 ≤ L)) :
    Calls Try.prog 89 #[.slice a L c] w fun e w' => e = .returned (.bool (rightB zs)) ∧ Below w.heap.size w w' := by
  have e0 : rightB zs = false := by
    cases e : rightB zs with
    | false => rfl
    | true =>
      have := (rightB_iff zs).1 e
      rw [h.1] at this
      omega
  rw [e0]
  clear h e0
  have hm : (L : Int).tmod 4 = ((L % 4 : Nat) : Int) := by rw [Int.tmod_eq_emod_of_nonneg (by omega)]; omega
  have hw : IntKind.i64.wrap ((L % 4 : Nat) : Int) = ((L % 4 : Nat) : Int) := by rw [IntKind.wrap_i64]; omega
  have hb2 : Below w.heap.size w ((w.alloc (.cells #[.slice a L c] 24)).alloc (.cells #[.bool false] 4)) := ((Below.refl _ _).alloc (Nat.le_refl _) _).alloc (by simp) _
  have hc : ((w.alloc (.cells #[.slice a L c] 24)).alloc (.cells #[.bool false] 4)).cell? ⟨w.heap.size + 1, 0, none⟩ = some (.bool false) := by
    have := cell_of_one (heap_alloc_new (w.alloc (.cells #[.slice a L c] 24)) (.cells #[.bool false] 4))
    rwa [World.size_alloc] at this
  refine (callsIn_wide (n := 3)).1 (callsIn_of_wp_marks Try.func89 rfl trivial ?_ rfl)
  simp only [Try.ntmps89, List.size_toArray, List.length_cons, List.length_nil, Nat.reduceAdd, Nat.reduceSub, Array.replicate_succ, Array.replicate_zero, List.push_toArray, List.append_toArray, List.nil_append, List.cons_append]
  by_cases h4 : L % 4 = 0
  · have h16 : (L : Int) < 16 := by omega
    rw [h4] at hm hw
    gi_wp2
    refine ⟨.bool false, ?_, rfl, hb2⟩
    simp [results, Try.results89, go_sem, hc]
  · generalize L % 4 = X at *
    have q : ((X : Int) == 0) = false := by simp; omega
    have q2 : ¬ (X : Int) = 0 := by omega
    gi_wp2
    refine ⟨.bool false, ?_, rfl, hb2⟩
    simp [results, Try.results89, go_sem, hc]
theorem kisstk_any (a : Option Addr) (L c : Nat) (zs : List Int) (w : World) (h : Reads w a L c zs) (hb : OkB zs) (hL : L ≤ 2000000) :
    Calls Try.prog 89 #[.slice a L c] w fun e w' => e = .returned (.bool (rightB zs)) ∧ Below w.heap.size w w' := by
  by_cases hf : ¬ (L % 4 = 0 ∧ 16 ≤ L)
  · exact kisstk_few a L c zs w h hL hf
  have hl := h.1
  obtain ⟨h4, h16⟩ : L % 4 = 0 ∧ 16 ≤ L := Classical.byContradiction hf
  have hm : (L : Int).tmod 4 = 0 := by rw [Int.tmod_eq_emod_of_nonneg (by omega)]; omega
  have hw : IntKind.i64.wrap 0 = 0 := by rw [IntKind.wrap_i64]; omega
  have d16 : ¬ (L : Int) < 16 := by omega
  have hlt := nu_lt hb (L - 4)
  obtain ⟨W0, hW0⟩ : ∃ W0, (w.alloc (.cells #[.slice a L c] 24)).alloc (.cells #[.bool false] 4) = W0 := ⟨_, rfl⟩
  have hb0 : Below w.heap.size w W0 := by rw [← hW0]; exact ((Below.refl _ _).alloc (Nat.le_refl _) _).alloc (by simp) _
  have HN : Hid (∀ w1, Below w.heap.size w w1 → Calls Try.prog 83 #[.slice a L c] w1 fun e w' => e = .returned (.int .u32 (nu zs (L - 4))) ∧ w' = w1) := fun w1 hb1 => klast_any a L c zs w1 (h.later hb1) hb (by omega) hL
  generalize hF0 : nu zs (L - 4) = F0 at *
  have hwF : IntKind.i64.wrap (F0 : Int) = (F0 : Int) := by rw [IntKind.wrap_i64]; omega
  refine (callsIn_wide (n := 3)).1 (callsIn_of_wp_marks Try.func89 rfl trivial ?_ rfl)
  simp only [Try.ntmps89, List.size_toArray, List.length_cons, List.length_nil, Nat.reduceAdd, Nat.reduceSub, Array.replicate_succ, Array.replicate_zero, List.push_toArray, List.append_toArray, List.nil_append, List.cons_append]
  have HN1 := hidden (HN.out _ (hb0.drew))
  have HCH := hidden (kchain_any a L c F0 W0.drew)
  have HW0 := hidden hW0
  rw [← hW0] at HN1 HCH
  clear hW0
  gi_wp2
  first | (gi_region_with (first | (refine ⟨trivial, ?_⟩; gi_at_call 83; refine (callsIn_wide.2 HN1.out).mono ?_; rintro e w1 ⟨rfl, rfl⟩) | (refine ⟨trivial, ?_⟩; gi_at_call 88; refine (callsIn_wide.2 HCH.out).mono ?_; rintro e w1 ⟨rfl, rfl⟩) | fail)) | fail
  all_goals (
    gi_wp2
    generalize hWX : ((((w.alloc (.cells #[.slice a L c] 24)).alloc (.cells #[.bool false] 4)).alloc (.cells #[.slice a L c] 24)).alloc (.cells #[.int .i64 (F0 : Int)] 3)).drew = WX
    have hk : Stk w (w.heap.size + 1 + 1) a L c F0 WX := by rw [← hWX]; exact stk_new w a L c F0
    have hsX : WX.heap.size = w.heap.size + 1 + 1 + 1 + 1 := by rw [← hWX]; simp
    clear hWX
    refine range_law (α := Nat × Nat) rfl (by omega) 91 #[.pointer (some ⟨w.heap.size + 1 + 1, 0, none⟩), .pointer (some ⟨w.heap.size + 1 + 1 + 1, 0, none⟩)] rfl trivial (enters_of Try.func91 (by kernel_rfl) rfl) (fun x => #[.int .i64 x.1, .int .i64 x.2]) (fun _ => rfl)
      (fun x W => Stk w (w.heap.size + 1 + 1) a L c x.1 W ∧ StkP zs L F0 x) (fun x W => Stk w (w.heap.size + 1 + 1) a L c x.1 W ∧ StkP zs L F0 x ∧ StkQ zs x) (StkX w zs L F0) (fun W => ∃ t, Stk w (w.heap.size + 1 + 1) a L c 0 W ∧ StkP zs L F0 (0, t) ∧ StkQ zs (0, t))
      (fun x => { tmps := #[.slice a L c, .pointer (some ⟨w.heap.size, 0, none⟩), .pointer (some ⟨w.heap.size + 1, 0, none⟩), .int .i64 x.1, .int .i64 x.2, .slice a L c, .int .i64 L, .int .i64 0, .bool false, .bool false, .slice a L c, .int .i64 L, .bool false, .bool false, .slice a L c, .slice a L c, .int .u32 F0, .int .i64 F0, .func (.func 91) #[] #[.pointer (some ⟨w.heap.size + 1 + 1, 0, none⟩), .pointer (some ⟨w.heap.size + 1 + 1 + 1, 0, none⟩)], .int .i64 x.1, .int .i64 x.2, undef, undef, undef, undef, undef, undef, undef, undef, undef, undef, undef, undef, undef, undef, undef, undef, undef, undef, undef], defers := [] })
      (fun x => putOk_and (stk_put (by omega)) (putOk_pure _)) (fun x => putOk_and (stk_put (by omega)) (putOk_pure _)) (stkx_put (by omega)) (fun W l o o' p1 p2 p3 ⟨t, p4, p5⟩ => ⟨t, stk_put (by omega) W l o o' p1 p2 p3 p4, p5⟩) ?iter ?assign ?body ?done ?stop
    case iter =>
      intro l Rd Dn W hbW hRd hY hr
      exact kchain1_in 2 (by omega) l (w.heap.size + 1 + 1) (w.heap.size + 1 + 1 + 1) a L c zs hb hL _ _ _ Rd Dn hRd hY (fun x W hj => hj.1.b4) (fun x W hj => ⟨hj.1.b4, hj.1.b3, h.later hj.1.below, fun h0 => stk_next hb h0 (by omega) hj⟩) W F0 (hk.later hbW).b3 ⟨hk.later hbW, by omega, by omega, by omega, Iff.rfl⟩ hr
    case assign =>
      intro l x W K hK
      gi_wp2
      exact hK
    case body =>
      rintro l ⟨f, t⟩ W ⟨hs, hp⟩
      obtain ⟨p1, p2, p3, p4⟩ := hp
      obtain ⟨z, hz⟩ := hs.b2
      have c1 := cell_of_one hs.b1
      have c2 := cell_of_one hz
      have f2 := free_of_one hz
      dsimp only at p1 p2 p3 p4 hs ⊢
      have HI := hidden (kisfr_any a L c f (t - 16) zs W (h.later hs.below) hb (by omega) hL p3)
      rw [show ((t - 16 : Nat) : Int) = (t : Int) - 16 by omega] at HI
      have hwt : IntKind.i64.wrap ((t : Int) - 16) = (t : Int) - 16 := by rw [IntKind.wrap_i64]; omega
      have hmf : (f : Int).tmod 4 = ((f % 4 : Nat) : Int) := by rw [Int.tmod_eq_emod_of_nonneg (by omega)]; omega
      have HS := hidden hs
      have HP4 := hidden p4
      have hwm : IntKind.i64.wrap ((f % 4 : Nat) : Int) = ((f % 4 : Nat) : Int) := by rw [IntKind.wrap_i64]; omega
      clear hs hz p4 h hb HN hk hlt
      by_cases m4 : f % 4 = 0
      · rw [m4] at hmf hwm
        by_cases z0 : f = 0 ∨ 16 ≤ f
        · have HZ := hidden z0
          have HM := hidden m4
          cases hfr : frB zs f (t - 16) with
          | false =>
            rw [hfr] at HI
            have HX := hidden fun W1 (hb1 : Below W.heap.size W W1) => stk_ret (HS.out.later hb1) (fun hc => by have := ((chn_iff.1 (HP4.out.1 hc)).2.2.1); rw [(frB_iff zs f (t - 16)).2 this] at hfr; cases hfr)
            clear hfr
            rcases z0 with z0 | z0
            · subst z0
              gi_wp2_with (first | (refine ⟨trivial, ?_⟩; gi_at_call 92; refine (CallsIn.inRound l (callsIn_wide.2 HI.out)).mono ?_; rintro e w1 ⟨rfl, hb1⟩; obtain ⟨z1, k1, k2⟩ := stk_cell (HS.out.later hb1)))
              exact ⟨(keeps_below hb1).trans (KeepsOthers.setCell _ _ _), HX.out _ hb1⟩
            · have q1 : ((f : Int) == 0) = false := by simp; omega
              have q2 : ¬ (f : Int) = 0 := by omega
              have q3 : ¬ (f : Int) < 16 := by omega
              gi_wp2_with (first | (refine ⟨trivial, ?_⟩; gi_at_call 92; refine (CallsIn.inRound l (callsIn_wide.2 HI.out)).mono ?_; rintro e w1 ⟨rfl, hb1⟩; obtain ⟨z1, k1, k2⟩ := stk_cell (HS.out.later hb1)))
              exact ⟨(keeps_below hb1).trans (KeepsOthers.setCell _ _ _), HX.out _ hb1⟩
          | true =>
            rw [hfr] at HI
            have HF := hidden ((frB_iff zs f (t - 16)).1 hfr)
            clear hfr
            rcases z0 with z0 | z0
            · subst z0
              gi_wp2_with (first | (refine ⟨trivial, ?_⟩; gi_at_call 92; refine (CallsIn.inRound l (callsIn_wide.2 HI.out)).mono ?_; rintro e w1 ⟨rfl, hb1⟩))
              exact ⟨keeps_below hb1, HS.out.later hb1, ⟨p1, p2, p3, HP4.out⟩, rfl, .inl rfl, HF.out⟩
            · have q1 : ((f : Int) == 0) = false := by simp; omega
              have q2 : ¬ (f : Int) = 0 := by omega
              have q3 : ¬ (f : Int) < 16 := by omega
              gi_wp2_with (first | (refine ⟨trivial, ?_⟩; gi_at_call 92; refine (CallsIn.inRound l (callsIn_wide.2 HI.out)).mono ?_; rintro e w1 ⟨rfl, hb1⟩))
              exact ⟨keeps_below hb1, HS.out.later hb1, ⟨p1, p2, p3, HP4.out⟩, HM.out, HZ.out, HF.out⟩
        · have HX := hidden (stk_ret HS.out (fun hc => z0 (chn_iff.1 (HP4.out.1 hc)).2.1))
          have q1 : ((f : Int) == 0) = false := by simp; omega
          have q2 : ¬ (f : Int) = 0 := by omega
          have q3 : (f : Int) < 16 := by omega
          gi_wp2
          refine ⟨trivial, ?_⟩
          gi_wp2
          exact ⟨KeepsOthers.setCell _ _ _, HX.out⟩
      · have HX := hidden (stk_ret HS.out (fun hc => m4 (chn_iff.1 (HP4.out.1 hc)).1))
        generalize f % 4 = X at *
        have q1 : ((X : Int) == 0) = false := by simp; omega
        have q2 : ¬ (X : Int) = 0 := by omega
        gi_wp2
        refine ⟨trivial, ?_⟩
        gi_wp2
        exact ⟨KeepsOthers.setCell _ _ _, HX.out⟩
    case done =>
      rintro D W hD ⟨t, hs, hp, hq⟩ hK
      have e1 : rightB zs = true := rightB_eq (by omega) (by omega) (by rw [hl, hF0]; exact ⟨fun _ => hp.2.2.2.2 (.base hq.2.2), fun _ => rfl⟩)
      obtain ⟨z, hz⟩ := hs.b2
      have c2 := cell_of_one hz
      have f2 := free_of_one hz
      have hB := hs.below
      clear hs hp hq h hb HN hk
      gi_wp2
      have hK' := (KeepsOthers.setCell W ⟨w.heap.size + 1, 0, none⟩ (.bool true)).same D _ hK rfl
      refine ⟨by simp, .inl ⟨_, _, rfl, run_takeDeferred hK', ?_⟩⟩
      have hc5 := cell_kept (World.cell?_setCell_same' W ⟨w.heap.size + 1, 0, none⟩ (.bool true) (by rw [c2]; rfl)) (grownBy_putObj' _ D (.deferred none)) (fun r e => by cases e; exact ⟨_, hK', rfl⟩)
      refine ⟨.bool true, ?_, by rw [e1], (hB.setCell (p := ⟨w.heap.size + 1, 0, none⟩) (by simp) _).trans (belowK_b (w := w) (Nat.le_refl _) _ D _ _ (by omega) hK' rfl rfl)⟩
      simp [results, Try.results89, go_sem, hc5]
    case stop =>
      rintro D W hD ⟨⟨hB, hz⟩, hn⟩ hK
      have e1 : rightB zs = false := rightB_eq (by omega) (by omega) (by rw [hl, hF0]; exact ⟨fun h => (by cases h), fun h => absurd h hn⟩)
      have c2 := cell_of_one hz
      clear h hb HN hk
      gi_wp2
      refine ⟨by simp, .inl ⟨_, _, rfl, run_takeDeferred hK, ?_⟩⟩
      have hc5 := cell_kept c2 (grownBy_putObj' _ D (.deferred none)) (fun r e => by cases e; exact ⟨_, hK, rfl⟩)
      refine ⟨.bool false, ?_, by rw [e1], hB.trans (belowK_b (w := w) (Nat.le_refl _) _ D _ _ (by omega) hK rfl rfl)⟩
      simp [results, Try.results89, go_sem, hc5])
end Go.Proofs.Ythhkennomnmjkaa
