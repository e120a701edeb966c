/- The document's calls answer as the program's do. -/
import Derived.Test.YthdbaiddmelhgaaE9g
import Derived.Test.YthdbaiddmelhgaaE9f
namespace Go.Proofs.Ythdbaiddmelhgaa
open Go.RowKit
set_option maxHeartbeats 1000000
set_option maxRecDepth 100000
set_option linter.unusedVariables false

/-- the document's heap is like the program's: its blocks are the same, in whatever order -/
structure Like (s t : Hs) : Prop where
  most : t.most = s.most
  start : t.start = s.start
  en : t.en = s.en
  perm : t.bs.Perm s.bs
theorem OkS.chain {s : Hs} (ok : OkS s) : ∃ e f, Chain e f s.bs := by
  by_cases h : s.bs.length = 0
  · rw [List.eq_nil_of_length_eq_zero h]
    exact ⟨0, 0, Nat.le_refl 0⟩
  · exact ⟨_, _, (ok.some (by omega)).2.2.2.2⟩
theorem fit_of {s t : Hs} (ok : OkS s) (lk : Like s t) : FitB t.bs := fun b hb => by
  have hm := lk.perm.mem_iff.1 hb
  have hpos : 0 < s.bs.length := List.length_pos_of_mem hm
  obtain ⟨o1, o2, o3, o4, o5⟩ := ok.some hpos
  have := chain_mem o5 b hm
  have := ok.most
  exact ⟨by omega, by omega⟩
theorem ins_perm {s t : Hs} (lk : Like s t) (n x : Nat) : (t.bs ++ [(⟨(place n (stR s x) s.bs).2, n⟩ : Bk)]).Perm (insB s n x) := by
  unfold insB
  refine (List.perm_append_singleton _ _).trans ?_
  refine List.Perm.trans ?_ List.perm_middle.symm
  rw [List.take_append_drop]
  exact lk.perm.cons _
theorem dm_ret {B : Nat} {w w' : World} {d : Nat} {u : Value} {s t : Hs} {n x : Nat} {e : Ending} (lk : Like s t) (c0 : n ≠ 0) (c1 : ¬ 4096 ≤ s.bs.length) (c2 : ¬ (s.bs.length = 0 ∧ begR s.most x = false))
    (hr : DMRet B w w' d u t n (place n (stR s x) s.bs).2 (stR s x) (enR s x) e) :
    e = .returned (.tuple #[.int .u32 (mallocA s n x : Nat), .bool (mallocB s n x)]) ∧ ∃ t', LeftD B w w' d u t' ∧ Like (mallocS s n x) t' := by
  have hpm := ins_perm lk n x
  have hm := lk.most
  rcases hr with ⟨h1, rfl, hl⟩ | ⟨h1, h2, rfl, hl⟩ | ⟨h1, h2, rfl, hl⟩
  · have e1 : mallocR s n x = some ((place n (stR s x) s.bs).2, ⟨s.most, stR s x, enR s x, insB s n x⟩) := by
      unfold mallocR; rw [if_neg (by omega), if_neg c2, if_pos h1]
    unfold mallocA mallocB mallocS
    rw [e1]
    exact ⟨rfl, _, hl, ⟨hm, rfl, rfl, hpm⟩⟩
  · have e1 : mallocR s n x = some ((place n (stR s x) s.bs).2, ⟨s.most, stR s x, up ((place n (stR s x) s.bs).2 + n), insB s n x⟩) := by
      unfold mallocR; rw [if_neg (by omega), if_neg c2, if_neg (by omega), if_neg (by omega)]
    unfold mallocA mallocB mallocS
    rw [e1]
    exact ⟨rfl, _, hl, ⟨hm, rfl, rfl, hpm⟩⟩
  · have e1 : mallocR s n x = none := by
      unfold mallocR; rw [if_neg (by omega), if_neg c2, if_neg (by omega), if_pos (by omega)]
    unfold mallocA mallocB mallocS
    rw [e1]
    exact ⟨rfl, _, hl, lk⟩
theorem dMal_any (B d : Nat) (u : Value) (s t : Hs) (n x : Nat) (w : World) (hp : DpAt B w d u t) (hB : B ≤ w.heap.size) (ok : OkS s) (lk : Like s t) (hn2 : n < 4294967296) (hx : x < 4294967296) :
    Calls Try.prog 17 #[.pointer (some ⟨d, 0, none⟩), .int .u32 n, .int .u32 x] w fun e w' => e = .returned (.tuple #[.int .u32 (mallocA s n x : Nat), .bool (mallocB s n x)]) ∧ ∃ t', LeftD B w w' d u t' ∧ Like (mallocS s n x) t' := by
  have hlen := lk.perm.length_eq
  have hnone : mallocR s n x = none → ∀ (e : Ending) (w' : World), e = .returned (.tuple #[.int .u32 0, .bool false]) → Below w.heap.size w w' → e = .returned (.tuple #[.int .u32 (mallocA s n x : Nat), .bool (mallocB s n x)]) ∧ ∃ t', LeftD B w w' d u t' ∧ Like (mallocS s n x) t' := fun hr e w' he hb => by
    unfold mallocA mallocB mallocS
    rw [hr]
    exact ⟨he, t, LeftD.same hp hb, lk⟩
  have hmo := ok.most
  have hfit := fit_of ok lk
  by_cases c0 : n = 0
  · have hr : mallocR s n x = none := by unfold mallocR; rw [if_pos (.inl c0)]
    exact (dmal_zero B d u t n x w hp c0).mono (fun e w' hh => hnone hr e w' hh.1 (by rw [hh.2]; exact Below.refl _ _))
  by_cases c1 : 4096 ≤ s.bs.length
  · have hr : mallocR s n x = none := by unfold mallocR; rw [if_pos (.inr c1)]
    exact (dmal_many B d u t n x w hp c0 (by omega)).mono (fun e w' hh => hnone hr e w' hh.1 (by rw [hh.2]; exact Below.refl _ _))
  by_cases c2 : s.bs.length = 0
  · by_cases hbeg : begR s.most x = true
    · obtain ⟨b1, b2, b3⟩ := begR_true hbeg
      have hbs : s.bs = [] := List.eq_nil_of_length_eq_zero c2
      have hts : t.bs = [] := List.eq_nil_of_length_eq_zero (by omega)
      have e1 : stR s x = x := by simp [stR, c2]
      have e2 : enR s x = x := by simp [enR, c2]
      have hpl : (place n (stR s x) s.bs).2 = x := by rw [e1, hbs]; rfl
      refine (dmal_new B d u t n x x w hp hB c0 (by omega) b1 b2 (by rw [lk.most]; exact b3) (by omega) hx (by rw [lk.most]; exact hmo) hx hx hx hn2 hfit (.inl rfl) (by rw [hts]; rfl) (fun c hc _ => ?_)).mono (fun e w' hh => ?_)
      · rcases hc with rfl | ⟨b, hb, _⟩
        · exact Nat.le_refl _
        · rw [hts] at hb; cases hb
      · refine dm_ret lk c0 c1 (by rintro ⟨_, h⟩; rw [hbeg] at h; cases h) ?_
        rw [hpl, e1, e2]
        exact hh
    · have hbf : begR s.most x = false := by simpa using hbeg
      have hr : mallocR s n x = none := by unfold mallocR; rw [if_neg (by omega), if_pos ⟨c2, hbf⟩]
      by_cases g0 : x = 0
      · exact (dmal_bad0 B d u t n x w hp c0 (by omega) hx g0).mono (fun e w' hh => hnone hr e w' hh.1 hh.2)
      by_cases g1 : x % 256 = 0
      · have g2 : t.most < x := by
          rw [lk.most]
          unfold begR at hbf
          simp [g0, g1] at hbf
          exact hbf
        exact (dmal_bad2 B d u t n x w hp c0 (by omega) hx g0 g1 g2).mono (fun e w' hh => hnone hr e w' hh.1 hh.2)
      · exact (dmal_bad1 B d u t n x w hp c0 (by omega) hx g0 g1).mono (fun e w' hh => hnone hr e w' hh.1 hh.2)
  · obtain ⟨o1, o2, o3, o4, o5⟩ := ok.some (by omega)
    have e1 : stR s x = s.start := by simp [stR, c2]
    have e2 : enR s x = s.en := by simp [enR, c2]
    have hpe := place_end n s.en s.start s.bs o5
    have hcle := o5.le
    have hmem : ∀ b, b ∈ t.bs ↔ b ∈ s.bs := fun b => lk.perm.mem_iff
    refine (dmal_old B d u t n x (place n s.start s.bs).2 w hp hB c0 (by omega) (by omega) hx (by rw [lk.most]; exact hmo) (by rw [lk.en]; omega) (by rw [lk.start]; omega) (by omega) hn2 hfit ?_ ?_ (fun c hc hfr => ?_)).mono (fun e w' hh => ?_)
    · rcases place_cand n s.start s.bs with h | ⟨b, hb, h⟩
      · exact .inl (by rw [lk.start]; exact h)
      · exact .inr ⟨b, (hmem b).2 hb, h⟩
    · rw [freeAt_perm lk.perm, freeAt_iff]
      exact place_free (by omega) o5
    · rw [freeAt_perm lk.perm, freeAt_iff] at hfr
      refine place_least (by omega) o5 c ?_ hfr
      rcases hc with rfl | ⟨b, hb, rfl⟩
      · rw [lk.start]; exact Nat.le_refl _
      · have := chain_mem o5 b ((hmem b).1 hb); omega
    · refine dm_ret lk c0 c1 (by rintro ⟨h, _⟩; exact c2 h) ?_
      rw [e1, e2, ← lk.start, ← lk.en]
      rw [← lk.start] at hh
      exact hh
theorem flt_none {bs : List Bk} {x : Nat} (h : ∀ b ∈ bs, b.a ≠ x) : fltB bs x = bs := by
  unfold fltB
  exact List.filter_eq_self.2 (fun b hb => by simpa using h b hb)
theorem flt_idx {e x : Nat} : ∀ {f : Nat} {bs : List Bk}, Chain e f bs → fltB bs x = bs.take (idxB x bs) ++ bs.drop (idxB x bs + 1)
  | f, [], _ => rfl
  | f, b :: bs, hc => by
    by_cases q : b.a = x
    · have h0 : fltB bs x = bs := flt_none (fun c hm => by have := chain_mem hc.2.2 c hm; have := hc.1; omega)
      have h1 : fltB (b :: bs) x = fltB bs x := by unfold fltB; rw [List.filter_cons_of_neg]; simpa using q
      rw [h1, h0]
      simp [idxB, q]
    · have h1 : fltB (b :: bs) x = b :: fltB bs x := by unfold fltB; rw [List.filter_cons_of_pos]; simpa using q
      rw [h1, flt_idx hc.2.2]
      simp [idxB, q]
theorem free_like {s t : Hs} (x : Nat) (ok : OkS s) (lk : Like s t) : dfreeE t x = freeE s x ∧ Like (freeS s x) (dfreeS t x) := by
  obtain ⟨e, f, hc⟩ := ok.chain
  have hfp : (fltB t.bs x).Perm (s.bs.take (idxB x s.bs) ++ s.bs.drop (idxB x s.bs + 1)) := by
    rw [← flt_idx hc]
    exact lk.perm.filter _
  have hfl := hfp.length_eq
  have hlen := lk.perm.length_eq
  have hle := idxB_le x s.bs
  by_cases q : idxB x s.bs = s.bs.length
  · have h1 : (fltB t.bs x).length = t.bs.length := by rw [hfl, q, hlen]; simp
    unfold dfreeE freeE dfreeS freeS
    rw [if_pos h1, if_pos h1, if_pos q, if_pos q]
    exact ⟨rfl, lk⟩
  · have h0 : (fltB t.bs x).length = s.bs.length - 1 := by rw [hfl]; simp; omega
    have h1 : ¬ (fltB t.bs x).length = t.bs.length := by omega
    unfold dfreeE freeE dfreeS freeS
    rw [if_neg h1, if_neg h1, if_neg q, if_neg q]
    refine ⟨rfl, ?_⟩
    by_cases q1 : s.bs.length = 1
    · rw [if_pos q1, if_pos (by omega)]
      exact ⟨lk.most, rfl, rfl, hfp⟩
    · rw [if_neg q1, if_neg (by omega)]
      exact ⟨lk.most, lk.start, lk.en, hfp⟩
theorem dFr_any (B d : Nat) (u : Value) (s t : Hs) (x : Nat) (w : World) (hp : DpAt B w d u t) (hB : B ≤ w.heap.size) (ok : OkS s) (lk : Like s t) :
    Calls Try.prog 18 #[.pointer (some ⟨d, 0, none⟩), .int .u32 x] w fun e w' => e = .returned (.int .i64 (freeE s x : Nat)) ∧ ∃ t', LeftD B w w' d u t' ∧ Like (freeS s x) t' := by
  have hl := ok.len
  have hlen := lk.perm.length_eq
  obtain ⟨h1, h2⟩ := free_like x ok lk
  exact (dFree_any B d u t x w hp hB (by omega)).mono (fun e w' hh => ⟨by rw [← h1]; exact hh.1, _, hh.2, h2⟩)
theorem dLd_any (B d : Nat) (u : Value) (s t : Hs) (x y : Nat) (ao : Option Addr) (n c : Nat) (bs : List Bk) (w : World) (hp : DpAt B w d u t) (hB : B ≤ w.heap.size) (lk : Like s t) (hk : Bks w ao n c bs) (hf : FitB bs) (hx : x < 4294967296) (hy : y < 4294967296) :
    Calls Try.prog 20 #[.pointer (some ⟨d, 0, none⟩), .int .u32 x, .int .u32 y, .slice ao n c] w fun e w' => e = .returned (.int .i64 (loadE s x y bs : Nat)) ∧ ∃ t', LeftD B w w' d u t' ∧ Like (loadS s x y bs) t' := by
  have hbn : bs.length = n := hk.1
  have hbad : ¬ 4096 < n → mayR s.most x y bs = false → ∀ (e : Ending) (w' : World), e = .returned (.int .i64 1) → LeftD B w w' d u t → e = .returned (.int .i64 (loadE s x y bs : Nat)) ∧ ∃ t', LeftD B w w' d u t' ∧ Like (loadS s x y bs) t' := fun h4 hr e w' he hb => by
    have h5 : ¬ 4096 < bs.length := by omega
    have e1 : loadE s x y bs = 1 := by unfold loadE; rw [if_neg h5, hr]; rfl
    have e2 : loadS s x y bs = s := by unfold loadS; rw [if_neg h5, hr]; rfl
    rw [e1, e2]
    exact ⟨he, t, hb, lk⟩
  by_cases c0 : 4096 < n
  · refine (dload_many d x y ao n c w c0).mono (fun e w' hh => ?_)
    unfold loadE loadS
    rw [if_pos (by omega), if_pos (by omega)]
    exact ⟨hh.1, t, LeftD.same hp (by rw [hh.2]; exact Below.refl _ _), lk⟩
  have hgood : ((n = 0 ∧ x = 0 ∧ y = 0) ∨ (0 < n ∧ x ≠ 0 ∧ x % 256 = 0 ∧ y % 256 = 0 ∧ y ≤ t.most)) → mayR s.most x y bs = chainB y x bs → Calls Try.prog 20 #[.pointer (some ⟨d, 0, none⟩), .int .u32 x, .int .u32 y, .slice ao n c] w fun e w' => e = .returned (.int .i64 (loadE s x y bs : Nat)) ∧ ∃ t', LeftD B w w' d u t' ∧ Like (loadS s x y bs) t' := fun hok hm => by
    refine (dload_loop B d u t x y ao n c bs w hp hB hk hf (by omega) hx hy hok).mono (fun e w' hh => ?_)
    rcases hh with ⟨h1, he, hl⟩ | ⟨h1, he, hl⟩
    · have h5 : ¬ 4096 < bs.length := by omega
      have e1 : loadE s x y bs = 0 := by unfold loadE; rw [if_neg h5, hm, h1]; rfl
      have e2 : loadS s x y bs = ⟨s.most, x, y, bs⟩ := by unfold loadS; rw [if_neg h5, hm, h1]; rfl
      rw [e1, e2]
      exact ⟨he, _, hl, ⟨lk.most, rfl, rfl, List.Perm.refl _⟩⟩
    · exact hbad c0 (by rw [hm, h1]) e w' he hl
  by_cases c1 : n = 0
  · subst c1
    have hbs : bs = [] := List.eq_nil_of_length_eq_zero hbn
    by_cases q : x = 0 ∧ y = 0
    · refine hgood (.inl ⟨rfl, q⟩) ?_
      rw [hbs]
      obtain ⟨rfl, rfl⟩ := q
      rfl
    · refine (dload_nil d x y ao c w q).mono (fun e w' hh => hbad c0 ?_ e w' hh.1 (LeftD.same hp (by rw [hh.2]; exact Below.refl _ _)))
      unfold mayR
      rw [if_pos hbn]
      by_cases qx : x = 0
      · have : y ≠ 0 := fun h => q ⟨qx, h⟩
        simp [this]
      · simp [qx]
  · by_cases q : x ≠ 0 ∧ x % 256 = 0 ∧ y % 256 = 0 ∧ y ≤ t.most
    · refine hgood (.inr ⟨by omega, q⟩) ?_
      obtain ⟨q1, q2, q3, q4⟩ := q
      rw [lk.most] at q4
      unfold mayR
      rw [if_neg (by omega)]
      simp [q1, q2, q3, q4]
    · refine (dload_head B d u t x y ao n c w hp (by omega) (by omega) hx hy q).mono (fun e w' hh => hbad c0 ?_ e w' hh.1 (LeftD.same hp (by rw [hh.2]; exact Below.refl _ _)))
      rw [lk.most] at q
      unfold mayR
      rw [if_neg (by omega)]
      cases hcc : (decide (x ≠ 0) && decide (x % 256 = 0) && decide (y % 256 = 0) && decide (y ≤ s.most) && chainB y x bs) with
      | false => rfl
      | true =>
        simp only [Bool.and_eq_true, decide_eq_true_eq] at hcc
        obtain ⟨⟨⟨⟨d1, d2⟩, d3⟩, d4⟩, d5⟩ := hcc
        exact absurd ⟨d1, d2, d3, d4⟩ q
theorem dBl_any (B d : Nat) (u : Value) (s t : Hs) (w : World) (hp : DpAt B w d u t) (ok : OkS s) (lk : Like s t) :
    Calls Try.prog 10 #[.pointer (some ⟨d, 0, none⟩)] w fun r w' => ∃ ao' c', r = .returned (.slice ao' s.bs.length c') ∧ w'.ownsRow w.heap.size 40 2 (.slice ao' s.bs.length c') s.bs.length (bksV s.bs) ∧ Below w.heap.size w w' := by
  obtain ⟨e, f, hc⟩ := ok.chain
  have hl := ok.len
  have hlen := lk.perm.length_eq
  exact dblocks_any B d u t s.bs e f w hp lk.perm hc (by omega)
end Go.Proofs.Ythdbaiddmelhgaa
