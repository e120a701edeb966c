/- Layer 14, the program: a pair, Arrange, Arrangement. -/
import Derived.Test.YtilfgbcbodjegaaI14a
import Derived.Test.YtilfgbcbodjegaaP14x
import Derived.BigQuiet
namespace Go.Proofs.Ytilfgbcbodjegaa
open Go.RowKit
set_option maxHeartbeats 1000000
set_option maxRecDepth 100000
set_option linter.unusedVariables false

/-- why a window is no pair -/
def prE (s : Ps) (x : Int) : Int := if hasB s.L x = false then 5 else if (ofW s.L x).k = 4 then 0 else 1
theorem pairAt_bad {B m : Nat} {v : Value} {s : Ps} {w : World} (h : PAt B w m v s) (ho : OkP s) (x E : Int) (hE : prE s x = E) (h0 : E ≠ 0) :
    Calls Try.prog 48 #[.pointer (some ⟨m, 0, none⟩), .int .i64 x] w fun e w' => e = .returned (.tuple #[.pointer none, .int .i64 E]) ∧ Hid (Below w.heap.size w w') := by
  unfold prE at hE
  by_cases hb : hasB s.L x = false
  · rw [if_pos hb] at hE
    subst hE
    have HA := hidden (at_none h ho.so (by have := ho.few; omega) x (hasB_no.1 hb))
    clear h hb h0
    go_enter Try.func48, Try.ntmps48
    go_wp2_with (first | (go_at_call 36; refine HA.out.mono ?_; rintro e w1 ⟨rfl, hb1⟩; have HB1 := hidden hb1; clear hb1) | fail)
    go_ret2
    exact ⟨rfl, HB1⟩
  · rw [if_neg hb] at hE
    have hW : hasW s.L x := hasB_iff.1 (by simpa using hb)
    obtain ⟨i, hi, hx⟩ := has_ix hW
    obtain ⟨g, c, hv, _⟩ := wrow_pos h.row (by omega)
    rw [ofW_at ho.so hi hx] at hE
    by_cases h4 : s.L[i].k = 4
    · rw [if_pos h4] at hE; exact absurd hE.symm h0
    rw [if_neg h4] at hE
    subst hE
    have HA := hidden (at_some h ho.so (by have := ho.few; omega) i hi g c hv x hx)
    have HC : Hid (∀ w', Below w.heap.size w w' → w'.cell? ⟨g, i * 8 + 1, none⟩ = some (.int .i64 s.L[i].k)) := hidden (fun w' hb => by
      have q := (h.later hb).row
      rw [hv] at q
      exact (wrow_cells q i hi).2.1)
    have q4 : (s.L[i].k != 4) = true := by rw [bne_iff_ne]; exact h4
    generalize s.L[i].k = K at *
    clear h hx hv h4 h0 hb hW
    go_enter Try.func48, Try.ntmps48
    go_wp2_with (first | (go_at_call 36; refine HA.out.mono ?_; rintro e w1 ⟨rfl, hb1⟩; have HB1 := hidden hb1; have e4 := HC.out _ hb1; clear hb1) | fail)
    go_ret2
    exact ⟨rfl, HB1⟩
theorem pairAt_good {B m : Nat} {v : Value} {s : Ps} {w : World} (h : PAt B w m v s) (ho : OkP s) (i : Nat) (hi : i < s.L.length) (g c : Nat) (hv : v = .slice (some ⟨g, 0, none⟩) s.L.length c) (x : Int) (hx : s.L[i].n = x) (h4 : s.L[i].k = 4) :
    Calls Try.prog 48 #[.pointer (some ⟨m, 0, none⟩), .int .i64 x] w fun e w' => e = .returned (.tuple #[.pointer (some ⟨g, i * 8, none⟩), .int .i64 0]) ∧ Hid (Below w.heap.size w w') := by
  have HA := hidden (at_some h ho.so (by have := ho.few; omega) i hi g c hv x hx)
  have HC : Hid (∀ w', Below w.heap.size w w' → w'.cell? ⟨g, i * 8 + 1, none⟩ = some (.int .i64 4)) := hidden (fun w' hb => by
    have q := (h.later hb).row
    rw [hv] at q
    rw [← h4]
    exact (wrow_cells q i hi).2.1)
  clear h hx hv h4
  go_enter Try.func48, Try.ntmps48
  go_wp2_with (first | (go_at_call 36; refine HA.out.mono ?_; rintro e w1 ⟨rfl, hb1⟩; have HB1 := hidden hb1; have e4 := HC.out _ hb1; clear hb1) | fail)
  go_ret2
  exact ⟨rfl, HB1⟩
/-- can a window be x's key? -/
def mayK (s : Ps) (x key : Int) : Bool := belB s x key && decide ((ofW s.L key).k ≠ 4)
theorem mayK_eq {s : Ps} (h : Iv s) {x : Int} (hx : hasW s.L x) (h4 : (ofW s.L x).k = 4) (key : Int) : mayK s x key = (belB s x (ofW s.L key).p && decide ((ofW s.L key).k ≠ 4)) := by
  unfold mayK
  by_cases e : key = x
  · subst e
    simp [h4]
  · rw [h.bel_step x key]
    by_cases e0 : key = 0
    · subst e0
      rw [if_pos rfl, h.of_zero, show belB s x wd0.p = false from upB_zero _ _ _]
    · rw [if_neg e0, if_neg e]
theorem mayBeKey_any {B m : Nat} {v : Value} {s : Ps} {w : World} (h : PAt B w m v s) (ho : Iv s) (x : Int) (hx : hasW s.L x) (h4 : (ofW s.L x).k = 4) (key : Int) :
    Calls Try.prog 51 #[.pointer (some ⟨m, 0, none⟩), .int .i64 key, .int .i64 x] w fun e w' => e = .returned (.bool (mayK s x key)) ∧ Hid (Below w.heap.size w w') := by
  have HI : Hid (∀ w1, Below w.heap.size w w1 → Calls Try.prog 64 #[.pointer (some ⟨m, 0, none⟩), .int .i64 key, .int .i64 x] w1 fun e w' => e = .returned (.bool (belB s x (ofW s.L key).p)) ∧ Hid (Below w.heap.size w w')) := hidden (fun w1 hb => (isBelow_any (h.later hb) ho.toOkL.toOkP key x 65 (ho.ends_all _)).mono (fun e w' hh => by
    rw [ho.bel_k x _ 66 (by omega)] at hh
    exact ⟨hh.1, hidden (hb.trans (hh.2.mono hb.size))⟩))
  have HK : Hid (∀ w1, Below w.heap.size w w1 → Calls Try.prog 15 #[.pointer (some ⟨m, 0, none⟩), .int .i64 key] w1 fun e w' => e = .returned (.int .i64 (ofW s.L key).k) ∧ Hid (Below w.heap.size w w')) := hidden (fun w1 hb => (kind_any (h.later hb) ho.toOkL.toOkP key).mono (fun e w' hh => ⟨hh.1, hidden (hb.trans (hh.2.mono hb.size))⟩))
  rw [mayK_eq ho hx h4 key]
  generalize belB s x (ofW s.L key).p = BL at *
  generalize (ofW s.L key).k = KK at *
  clear h ho hx h4
  have HI0 := hidden (HI.out w (Below.refl _ _))
  cases BL with
  | false =>
    clear HI HK
    go_enter Try.func51, Try.ntmps51
    go_wp2_with (first | (go_at_call 64; refine HI0.out.mono ?_; rintro e w1 ⟨rfl, HB1⟩) | fail)
    go_ret
    exact ⟨rfl, HB1⟩
  | true =>
    by_cases h4 : KK = 4
    · have q : (KK != 4) = false := by simp [h4]
      have e : (true && decide (KK ≠ 4)) = false := by simp [h4]
      rw [e]
      clear h4 e
      go_enter Try.func51, Try.ntmps51
      go_wp2_with (first | (go_at_call 64; refine HI0.out.mono ?_; rintro e w1 ⟨rfl, HB1⟩) | (go_at_call 15; refine (HK.out _ HB1.out).mono ?_; rintro e w2 ⟨rfl, HB2⟩) | fail)
      go_ret
      exact ⟨rfl, HB2⟩
    · have q : (KK != 4) = true := by rw [bne_iff_ne]; exact h4
      have e : (true && decide (KK ≠ 4)) = true := by simp [h4]
      rw [e]
      clear h4 e
      go_enter Try.func51, Try.ntmps51
      go_wp2_with (first | (go_at_call 64; refine HI0.out.mono ?_; rintro e w1 ⟨rfl, HB1⟩) | (go_at_call 15; refine (HK.out _ HB1.out).mono ?_; rintro e w2 ⟨rfl, HB2⟩) | fail)
      go_ret
      exact ⟨rfl, HB2⟩
/-- how a pair is parted, as it is told -/
theorem arrangement_bad {B m : Nat} {v : Value} {s : Ps} {w : World} (h : PAt B w m v s) (ho : OkP s) (x E : Int) (hE : prE s x = E) (h0 : E ≠ 0) :
    Calls Try.prog 28 #[.pointer (some ⟨m, 0, none⟩), .int .i64 x] w fun e w' => e = .returned (.tuple #[.int .i64 0, .int .u32 0, .int .i64 0, .int .i64 E]) ∧ Hid (Below w.heap.size w w') := by
  have HA := hidden (pairAt_bad h ho x E hE h0)
  have q : (E != 0) = true := by rw [bne_iff_ne]; exact h0
  clear h ho hE h0
  go_enter Try.func28, Try.ntmps28
  go_wp2_with (first | (go_at_call 48; refine HA.out.mono ?_; rintro e w1 ⟨rfl, HB1⟩) | fail)
  exact bodyPost_ret (v := .tuple #[.int .i64 0, .int .u32 0, .int .i64 0, .int .i64 E]) (by simp [results, Try.results28, go_sem]) rfl ⟨rfl, HB1⟩
theorem arrangement_good {B m : Nat} {v : Value} {s : Ps} {w : World} (h : PAt B w m v s) (ho : OkP s) (x : Int) (hE : prE s x = 0) :
    Calls Try.prog 28 #[.pointer (some ⟨m, 0, none⟩), .int .i64 x] w fun e w' => e = .returned (.tuple #[.int .i64 (ofW s.L x).m, .int .u32 (ofW s.L x).s, .int .i64 (ofW s.L x).key, .int .i64 0]) ∧ Hid (Below w.heap.size w w') := by
  unfold prE at hE
  by_cases hb : hasB s.L x = false
  · rw [if_pos hb] at hE; omega
  rw [if_neg hb] at hE
  have hW : hasW s.L x := hasB_iff.1 (by simpa using hb)
  obtain ⟨i, hi, hx⟩ := has_ix hW
  obtain ⟨g, c, hv, _⟩ := wrow_pos h.row (by omega)
  rw [ofW_at ho.so hi hx] at hE ⊢
  have h4 : s.L[i].k = 4 := by
    by_cases h4 : s.L[i].k = 4
    · exact h4
    · rw [if_neg h4] at hE; omega
  have HA := hidden (pairAt_good h ho i hi g c hv x hx h4)
  have HC : Hid (∀ w', Below w.heap.size w w' → w'.cell? ⟨g, i * 8 + 5, none⟩ = some (.int .i64 s.L[i].m) ∧ w'.cell? ⟨g, i * 8 + 6, none⟩ = some (.int .u32 s.L[i].s) ∧ w'.cell? ⟨g, i * 8 + 7, none⟩ = some (.int .i64 s.L[i].key)) := hidden (fun w' hb => by
    have q := (h.later hb).row
    rw [hv] at q
    have := wrow_cells q i hi
    exact ⟨this.2.2.2.2.2.1, this.2.2.2.2.2.2.1, this.2.2.2.2.2.2.2⟩)
  generalize s.L[i] = d at *
  clear h ho hv hW hb hx hE h4
  go_enter Try.func28, Try.ntmps28
  go_wp2_with (first | (go_at_call 48; refine HA.out.mono ?_; rintro e w1 ⟨rfl, HB1⟩; obtain ⟨c5, c6, c7⟩ := HC.out _ HB1.out) | fail)
  go_quiet (fail)
  go_wp2
  exact bodyPost_ret (v := .tuple #[.int .i64 d.m, .int .u32 d.s, .int .i64 d.key, .int .i64 0]) (by simp [results, Try.results28, go_sem]) rfl ⟨rfl, hidden (below_drewN HB1.out _)⟩
/-- a store into a window, its length a letter -/
theorem PAt.setW2 {B : Nat} {w : World} {m g c N : Nat} {s : Ps} (h : PAt B w m (.slice (some ⟨g, 0, none⟩) N c) s) (hN : s.L.length = N) (i : Nat) (hi : i < s.L.length) (j : Nat) (hj : j < 8) (u : Value) (d0 d : Wd) (h0 : s.L[i] = d0) (hd : wdV d = (wdV d0).set j u) :
    PAt B (w.setCell ⟨g, i * 8 + j, none⟩ u) m (.slice (some ⟨g, 0, none⟩) N c) { s with L := s.L.set i d } ∧ Fm w (w.setCell ⟨g, i * 8 + j, none⟩ u) (TP m (.slice (some ⟨g, 0, none⟩) N c)) (TP m (.slice (some ⟨g, 0, none⟩) N c)) := by
  subst hN
  subst h0
  exact h.setW i hi j hj u d hd
def arrF (m sz key : Int) (d : Wd) : Wd := { d with m := m, s := sz, key := if key = 0 then d.key else key }
def arrS (s : Ps) (x m sz key : Int) : Ps := { s with L := updW s.L x (arrF m sz key) }
/-- why a pair cannot be parted so -/
def arrE (s : Ps) (x m key : Int) : Int := if prE s x ≠ 0 then prE s x else if mtdB m = false then 1 else if decide (m % 4 < 2) ≠ decide ((ofW s.L x).m % 4 < 2) then 1 else if key ≠ 0 ∧ mayK s x key = false then 1 else 0
theorem arrange_nopair {B m : Nat} {v : Value} {s : Ps} {w : World} (h : PAt B w m v s) (ho : OkP s) (x mt sz key E : Int) (hE : prE s x = E) (h0 : E ≠ 0) :
    Calls Try.prog 29 #[.pointer (some ⟨m, 0, none⟩), .int .i64 x, .int .i64 mt, .int .u32 sz, .int .i64 key] w fun e w' => e = .returned (.int .i64 E) ∧ Hid (Below w.heap.size w w') := by
  have HA := hidden (pairAt_bad h ho x E hE h0)
  have q : (E != 0) = true := by rw [bne_iff_ne]; exact h0
  clear h ho hE h0
  go_enter Try.func29, Try.ntmps29
  go_wp2_with (first | (go_at_call 48; refine HA.out.mono ?_; rintro e w1 ⟨rfl, HB1⟩) | fail)
  go_ret
  exact ⟨rfl, HB1⟩
/-- what Arrange leaves -/
def ArR (B m : Nat) (v : Value) (w : World) (s' : Ps) (e : Ending) (w' : World) : Prop := e = .returned (.int .i64 0) ∧ PAt B w' m v s' ∧ Fm w w' (TP m v) (TP m v)
set_option maxHeartbeats 8000000 in
theorem arrange_pair {B m : Nat} {v : Value} {s : Ps} {w : World} (h : PAt B w m v s) (ho : Iv s) (x mt sz key : Int) (hp : prE s x = 0) (hm0 : -9223372036854775808 ≤ mt) (hm1 : mt ≤ 9223372036854775807) :
    (arrE s x mt key ≠ 0 → Calls Try.prog 29 #[.pointer (some ⟨m, 0, none⟩), .int .i64 x, .int .i64 mt, .int .u32 sz, .int .i64 key] w fun e w' => e = .returned (.int .i64 (arrE s x mt key)) ∧ Hid (Below w.heap.size w w')) ∧
    (arrE s x mt key = 0 → Calls Try.prog 29 #[.pointer (some ⟨m, 0, none⟩), .int .i64 x, .int .i64 mt, .int .u32 sz, .int .i64 key] w (ArR B m v w (arrS s x mt sz key))) := by
  obtain ⟨E, hE⟩ : ∃ E, arrE s x mt key = E := ⟨_, rfl⟩
  rw [hE]
  unfold arrE at hE
  rw [if_neg (by rw [hp]; exact fun q => q rfl)] at hE
  have hp2 := hp
  unfold prE at hp2
  by_cases hb : hasB s.L x = false
  · rw [if_pos hb] at hp2; omega
  rw [if_neg hb] at hp2
  have hW : hasW s.L x := hasB_iff.1 (by simpa using hb)
  have h4 : (ofW s.L x).k = 4 := by
    by_cases h4 : (ofW s.L x).k = 4
    · exact h4
    · rw [if_neg h4] at hp2; omega
  have hpw := ho.pw x hW h4
  obtain ⟨i, hi, hx⟩ := has_ix hW
  obtain ⟨g, c, hv, _⟩ := wrow_pos h.row (by omega)
  have hof := ofW_at ho.so hi hx
  have HA := hidden (pairAt_good h ho.toOkL.toOkP i hi g c hv x hx (by rw [← hof]; exact h4))
  have HMK : Hid (∀ w1, Below w.heap.size w w1 → Calls Try.prog 51 #[.pointer (some ⟨m, 0, none⟩), .int .i64 key, .int .i64 x] w1 fun e w' => e = .returned (.bool (mayK s x key)) ∧ Hid (Below w.heap.size w w')) := hidden (fun w1 hb => (mayBeKey_any (h.later hb) ho x hW h4 key).mono (fun e w' hh => ⟨hh.1, hidden (hb.trans (hh.2.out.mono hb.size))⟩))
  have HM := hidden (fun wx => isMethod_any mt wx hm0 hm1)
  have HBP := hidden (fun wx => isBeside_any (ofW s.L x).m wx hpw.mt)
  have HC : Hid (∀ w', Below w.heap.size w w' → w'.cell? ⟨g, i * 8 + 5, none⟩ = some (.int .i64 (ofW s.L x).m)) := hidden (fun w' hb => by
    have q := (h.later hb).row
    rw [hv] at q
    rw [hof]
    exact (wrow_cells q i hi).2.2.2.2.2.1)
  have HST : Hid (∀ w1, Below w.heap.size w w1 → w1.frozen? ⟨g, i * 8 + 5, none⟩ = false ∧ w1.frozen? ⟨g, i * 8 + 6, none⟩ = false ∧ w1.frozen? ⟨g, i * 8 + 7, none⟩ = false ∧ (∃ u, w1.cell? ⟨g, i * 8 + 5, none⟩ = some u) ∧ (∃ u, w1.cell? ⟨g, i * 8 + 6, none⟩ = some u) ∧ (∃ u, w1.cell? ⟨g, i * 8 + 7, none⟩ = some u) ∧ (key = 0 → ArR B m v w (arrS s x mt sz key) (.returned (.int .i64 0)) ((w1.setCell ⟨g, i * 8 + 5, none⟩ (.int .i64 mt)).setCell ⟨g, i * 8 + 6, none⟩ (.int .u32 sz))) ∧ (key ≠ 0 → ArR B m v w (arrS s x mt sz key) (.returned (.int .i64 0)) (((w1.setCell ⟨g, i * 8 + 5, none⟩ (.int .i64 mt)).setCell ⟨g, i * 8 + 6, none⟩ (.int .u32 sz)).setCell ⟨g, i * 8 + 7, none⟩ (.int .i64 key)))) := hidden (fun w1 hb => by
    have h1 := h.later hb
    subst hv
    have hr := h1.row
    have cc := wrow_cells hr i hi
    obtain ⟨g1, f1⟩ := h1.setW2 rfl i hi 5 (by omega) (.int .i64 mt) s.L[i] { s.L[i] with m := mt } rfl rfl
    obtain ⟨g2, f2⟩ := g1.setW2 (by simp) i (by simpa using hi) 6 (by omega) (.int .u32 sz) { s.L[i] with m := mt } { s.L[i] with m := mt, s := sz } (by simp) rfl
    refine ⟨wrow_frozen hr _, wrow_frozen hr _, wrow_frozen hr _, ⟨_, cc.2.2.2.2.2.1⟩, ⟨_, cc.2.2.2.2.2.2.1⟩, ⟨_, cc.2.2.2.2.2.2.2⟩, fun k0 => ⟨rfl, ?_, ((Fm.same hb).trans f1).trans f2⟩, fun k0 => ?_⟩
    · unfold arrS
      rw [← upd_set ho.so hi hx]
      have : arrF mt sz key s.L[i] = { s.L[i] with m := mt, s := sz } := by unfold arrF; rw [if_pos k0]
      rw [this]
      have r := g2
      simp only [List.set_set] at r
      exact r
    · obtain ⟨g3, f3⟩ := g2.setW2 (by simp) i (by simpa using hi) 7 (by omega) (.int .i64 key) { s.L[i] with m := mt, s := sz } { s.L[i] with m := mt, s := sz, key := key } (by simp) rfl
      refine ⟨rfl, ?_, (((Fm.same hb).trans f1).trans f2).trans f3⟩
      unfold arrS
      rw [← upd_set ho.so hi hx]
      have : arrF mt sz key s.L[i] = { s.L[i] with m := mt, s := sz, key := key } := by unfold arrF; rw [if_neg k0]
      rw [this]
      have r := g3
      simp only [List.set_set] at r
      exact r)
  generalize hPQ : ArR B m v w (arrS s x mt sz key) = PQ at *
  generalize mayK s x key = MK at *
  have hmB := hpw.mt
  generalize (ofW s.L x).m = PM at *
  clear h ho hp hp2 hb hW h4 hpw hi hx hv hof hPQ
  by_cases b1 : mtdB mt = false
  · rw [if_pos b1] at hE
    subst hE
    rw [b1] at HM
    refine ⟨fun _ => ?_, fun q => absurd q (by omega)⟩
    clear HST HMK HBP HC
    go_enter Try.func29, Try.ntmps29
    go_upto_region 4 with (first | (go_at_call 48; refine HA.out.mono ?_; rintro e w1 ⟨rfl, HB1⟩) | fail)
    go_quiet (first | (go_at_call 49; exact Calls.quiet_of_same (HM.out _)) | fail)
    all_goals go_wp2
    all_goals go_ret
    all_goals exact ⟨rfl, hidden (below_drewN HB1.out _)⟩
  · have b1' : mtdB mt = true := by simpa using b1
    rw [if_neg b1] at hE
    rw [b1'] at HM
    have HBM := hidden (fun wx => isBeside_any mt wx b1')
    obtain ⟨D1, hD1⟩ : ∃ D1, decide (mt % 4 < 2) = D1 := ⟨_, rfl⟩
    obtain ⟨D2, hD2⟩ : ∃ D2, decide (PM % 4 < 2) = D2 := ⟨_, rfl⟩
    rw [hD1] at hE HBM
    rw [hD2] at hE HBP
    clear hD1 hD2
    by_cases b2 : D1 ≠ D2
    · rw [if_pos b2] at hE
      subst hE
      refine ⟨fun _ => ?_, fun q => absurd q (by omega)⟩
      clear HST HMK b1
      obtain rfl : D2 = !D1 := by cases D1 <;> cases D2 <;> simp_all
      clear b2
      cases D1
      all_goals
        go_enter Try.func29, Try.ntmps29
        go_upto_region 4 with (first | (go_at_call 48; refine HA.out.mono ?_; rintro e w1 ⟨rfl, HB1⟩; have c5 := HC.out _ HB1.out) | fail)
        go_quiet (first | (go_at_call 49; exact Calls.quiet_of_same (HM.out _)) | (go_at_call 50; exact Calls.quiet_of_same (HBM.out _)) | (go_at_call 50; exact Calls.quiet_of_same (HBP.out _)) | fail)
        go_wp2
        go_ret
        exact ⟨rfl, hidden (below_drewN HB1.out _)⟩
    · rw [if_neg b2] at hE
      obtain rfl : D1 = D2 := by simpa using b2
      clear b2
      by_cases k0 : key = 0
      · subst k0
        rw [if_neg (fun q => q.1 rfl)] at hE
        subst hE
        refine ⟨fun q => absurd rfl q, fun _ => ?_⟩
        have HST2 : Hid (∀ w1, Below w.heap.size w w1 → w1.frozen? ⟨g, i * 8 + 5, none⟩ = false ∧ w1.frozen? ⟨g, i * 8 + 6, none⟩ = false ∧ (∃ u, w1.cell? ⟨g, i * 8 + 5, none⟩ = some u) ∧ (∃ u, w1.cell? ⟨g, i * 8 + 6, none⟩ = some u) ∧ Hid (PQ (.returned (.int .i64 0)) ((w1.setCell ⟨g, i * 8 + 5, none⟩ (.int .i64 mt)).setCell ⟨g, i * 8 + 6, none⟩ (.int .u32 sz)))) := hidden (fun w1 hb => by
          obtain ⟨z1, z2, z3, z4, z5, z6, z7, z8⟩ := HST.out w1 hb
          exact ⟨z1, z2, z4, z5, hidden (z7 rfl)⟩)
        clear HST HMK b1
        have q0 : ((0 : Int) != 0) = false := rfl
        cases D1
        all_goals
          go_enter Try.func29, Try.ntmps29
          go_upto_region 4 with (first | (go_at_call 48; refine HA.out.mono ?_; rintro e w1 ⟨rfl, HB1⟩; have c5 := HC.out _ HB1.out) | fail)
          go_quiet (first | (go_at_call 49; exact Calls.quiet_of_same (HM.out _)) | (go_at_call 50; exact Calls.quiet_of_same (HBM.out _)) | (go_at_call 50; exact Calls.quiet_of_same (HBP.out _)) | fail)
          have HBN := hidden (below_drewN HB1.out nq)
          generalize w1.drewN nq = W at *
          obtain ⟨z1, z2, ⟨u1, z3⟩, ⟨u2, z4⟩, HG⟩ := HST2.out _ HBN.out
          clear HST2
          go_wp2
          exact HG.out
      · have q0 : (key != 0) = true := by rw [bne_iff_ne]; exact k0
        by_cases b3 : MK = false
        · subst b3
          rw [if_pos ⟨k0, rfl⟩] at hE
          subst hE
          refine ⟨fun _ => ?_, fun q => absurd q (by omega)⟩
          clear HST b1 k0
          cases D1
          all_goals
            go_enter Try.func29, Try.ntmps29
            go_upto_region 4 with (first | (go_at_call 48; refine HA.out.mono ?_; rintro e w1 ⟨rfl, HB1⟩; have c5 := HC.out _ HB1.out) | fail)
            go_region_held3 (fun w' => w'.cell? ⟨g, i * 8 + 5, none⟩ = some (.int .i64 PM)) (first | assumption | go_keep) (first | (go_at_call 49; refine (HM.out _).mono ?_; rintro e w5 ⟨rfl, e2⟩; rw [e2]; clear e2) | (go_at_call 50; refine (HBM.out _).mono ?_; rintro e w5 ⟨rfl, e2⟩; rw [e2]; clear e2) | (go_at_call 50; refine (HBP.out _).mono ?_; rintro e w5 ⟨rfl, e2⟩; rw [e2]; clear e2) | (go_at_call 51; refine (HMK.out _ (by first | exact HB1.out.drew | exact HB1.out)).mono ?_; rintro e w6 ⟨rfl, HB6⟩; have c6 := HC.out _ HB6.out) | fail)
            all_goals go_wp2
            all_goals go_ret
            all_goals first | exact ⟨rfl, HB6⟩ | exact ⟨rfl, hidden HB6.out.drew⟩
        · have b3' : MK = true := by simpa using b3
          subst b3'
          rw [if_neg (fun q => by cases q.2)] at hE
          subst hE
          refine ⟨fun q => absurd rfl q, fun _ => ?_⟩
          have HST2 : Hid (∀ w1, Below w.heap.size w w1 → w1.frozen? ⟨g, i * 8 + 5, none⟩ = false ∧ w1.frozen? ⟨g, i * 8 + 6, none⟩ = false ∧ w1.frozen? ⟨g, i * 8 + 7, none⟩ = false ∧ (∃ u, w1.cell? ⟨g, i * 8 + 5, none⟩ = some u) ∧ (∃ u, w1.cell? ⟨g, i * 8 + 6, none⟩ = some u) ∧ (∃ u, w1.cell? ⟨g, i * 8 + 7, none⟩ = some u) ∧ Hid (PQ (.returned (.int .i64 0)) (((w1.setCell ⟨g, i * 8 + 5, none⟩ (.int .i64 mt)).setCell ⟨g, i * 8 + 6, none⟩ (.int .u32 sz)).setCell ⟨g, i * 8 + 7, none⟩ (.int .i64 key)))) := hidden (fun w1 hb => by
            obtain ⟨z1, z2, z3, z4, z5, z6, z7, z8⟩ := HST.out w1 hb
            exact ⟨z1, z2, z3, z4, z5, z6, hidden (z8 k0)⟩)
          clear HST b1 k0 b3
          cases D1
          all_goals
            go_enter Try.func29, Try.ntmps29
            go_upto_region 4 with (first | (go_at_call 48; refine HA.out.mono ?_; rintro e w1 ⟨rfl, HB1⟩; have c5 := HC.out _ HB1.out) | fail)
            go_region_held3 (fun w' => w'.cell? ⟨g, i * 8 + 5, none⟩ = some (.int .i64 PM)) (first | assumption | go_keep) (first | (go_at_call 49; refine (HM.out _).mono ?_; rintro e w5 ⟨rfl, e2⟩; rw [e2]; clear e2) | (go_at_call 50; refine (HBM.out _).mono ?_; rintro e w5 ⟨rfl, e2⟩; rw [e2]; clear e2) | (go_at_call 50; refine (HBP.out _).mono ?_; rintro e w5 ⟨rfl, e2⟩; rw [e2]; clear e2) | (go_at_call 51; refine (HMK.out _ (by first | exact HB1.out.drew | exact HB1.out)).mono ?_; rintro e w6 ⟨rfl, HB6⟩; have c6 := HC.out _ HB6.out) | fail)
            all_goals first
              | (obtain ⟨z1, z2, z3, ⟨u1, z4⟩, ⟨u2, z5⟩, ⟨u3, z6⟩, HG⟩ := HST2.out _ HB6.out; go_wp2; exact HG.out)
              | (obtain ⟨z1, z2, z3, ⟨u1, z4⟩, ⟨u2, z5⟩, ⟨u3, z6⟩, HG⟩ := HST2.out _ HB6.out.drew; go_wp2; exact HG.out)
end Go.Proofs.Ytilfgbcbodjegaa
