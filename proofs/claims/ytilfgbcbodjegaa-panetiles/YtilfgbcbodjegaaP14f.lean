/- Layer 14, the program: the children of a pair; why a window cannot be opened. -/
import Derived.Test.YtilfgbcbodjegaaP14e
namespace Go.Proofs.Ytilfgbcbodjegaa
open Go.RowKit
set_option maxHeartbeats 1000000
set_option maxRecDepth 100000
set_option linter.unusedVariables false

def kidsF (a b : Int) (d : Wd) : Wd := { d with a := a, b := b }
theorem kidsF_n (a b : Int) (d : Wd) : (kidsF a b d).n = d.n := rfl
theorem setCell_swap (w : World) (g a b : Nat) (u v : Value) (h : a ≠ b) : (w.setCell ⟨g, a, none⟩ u).setCell ⟨g, b, none⟩ v = (w.setCell ⟨g, b, none⟩ v).setCell ⟨g, a, none⟩ u := by
  unfold World.setCell
  congr 1
  apply Array.ext
  · simp
  · intro k h1 h2
    simp only [Array.getElem_modify]
    by_cases e : g = k
    · subst e
      simp only [if_true]
      have hk : g < w.heap.size := by simpa using h1
      cases w.heap[g] with
      | cells c el fr =>
        simp only [Option.isSome_none, Bool.false_eq_true, if_false]
        rw [Array.setIfInBounds_comm _ _ h]
      | _ => rfl
    · simp only [if_neg e]
/-- a pair's children, behind k of them being told their parent -/
def joinK (s : Ps) (pair a b : Int) : Nat → Ps
  | 0 => { s with L := updW s.L pair (kidsF a b) }
  | 1 => { s with L := updW (updW s.L pair (kidsF a b)) a (parF pair) }
  | _ + 2 => { s with L := updW (updW (updW s.L pair (kidsF a b)) a (parF pair)) b (parF pair) }
def joinS (s : Ps) (pair measured other : Int) : Ps := if (ofW s.L pair).m % 2 = 0 then joinK s pair measured other 2 else joinK s pair other measured 2
theorem joinK_ok {s : Ps} (h : OkP s) (pair a b : Int) : ∀ k, OkP (joinK s pair a b k)
  | 0 => upd_ok h _ _ (kidsF_n a b)
  | 1 => upd_ok (s := joinK s pair a b 0) (upd_ok h _ _ (kidsF_n a b)) _ _ (parF_n pair)
  | _ + 2 => upd_ok (s := joinK s pair a b 1) (upd_ok (s := joinK s pair a b 0) (upd_ok h _ _ (kidsF_n a b)) _ _ (parF_n pair)) _ _ (parF_n pair)
theorem joinK_len (s : Ps) (pair a b : Int) : ∀ k, (joinK s pair a b k).L.length = s.L.length
  | 0 => by simp [joinK, upd_len]
  | 1 => by simp [joinK, upd_len]
  | _ + 2 => by simp [joinK, upd_len]
theorem joinK_has {s : Ps} (pair a b x : Int) : ∀ k, hasW (joinK s pair a b k).L x ↔ hasW s.L x
  | 0 => upd_has _ _ _ (kidsF_n a b)
  | 1 => (upd_has _ _ _ (parF_n pair)).trans (upd_has _ _ _ (kidsF_n a b))
  | _ + 2 => (upd_has _ _ _ (parF_n pair)).trans ((upd_has _ _ _ (parF_n pair)).trans (upd_has _ _ _ (kidsF_n a b)))
/-- one child is told its parent -/
theorem join_step {B m g c : Nat} {s : Ps} {w : World} (pair a b : Int) (k : Nat) (hk : k < 2) (x : Int) (hx : x = if k = 0 then a else b) (h : PAt B w m (.slice (some ⟨g, 0, none⟩) s.L.length c) (joinK s pair a b k)) (ho : OkP s) (hh : hasW s.L x) :
    ∃ i, Hid (Calls Try.prog 36 #[.pointer (some ⟨m, 0, none⟩), .int .i64 x] w fun e w' => e = .returned (.pointer (some ⟨g, i * 8, none⟩)) ∧ Below w.heap.size w w') ∧ (∀ w', Below w.heap.size w w' → (∃ u, w'.cell? ⟨g, i * 8 + 2, none⟩ = some (.int .i64 u)) ∧ w'.frozen? ⟨g, i * 8 + 2, none⟩ = false ∧ Hid (PAt B (w'.setCell ⟨g, i * 8 + 2, none⟩ (.int .i64 pair)) m (.slice (some ⟨g, 0, none⟩) s.L.length c) (joinK s pair a b (k + 1))) ∧ Hid (Fm w (w'.setCell ⟨g, i * 8 + 2, none⟩ (.int .i64 pair)) (TP m (.slice (some ⟨g, 0, none⟩) s.L.length c)) (TP m (.slice (some ⟨g, 0, none⟩) s.L.length c)))) := by
  have hok := joinK_ok ho pair a b k
  have hl := joinK_len s pair a b k
  obtain ⟨i, hi, hix⟩ := has_ix ((joinK_has pair a b x k).2 hh)
  rw [← hl] at h
  refine ⟨i, hidden (at_some h hok.so (by have := hok.few; omega) i hi g c rfl x hix), fun w' hb => ?_⟩
  have h2 := h.later hb
  obtain ⟨g1, g2⟩ := h2.setPar hok i hi x hix pair
  refine ⟨⟨_, (wrow_cells h2.row i hi).2.2.1⟩, wrow_frozen h2.row _, hidden ?_, hidden ?_⟩
  · rw [hl] at g1
    have e : ({ joinK s pair a b k with L := updW (joinK s pair a b k).L x (parF pair) } : Ps) = joinK s pair a b (k + 1) := by
      rcases (show k = 0 ∨ k = 1 by omega) with rfl | rfl
      · rw [hx]; rfl
      · rw [hx]; rfl
    rw [← e]
    exact g1
  · rw [hl] at g2
    exact (Fm.same hb).trans g2
set_option maxHeartbeats 8000000 in
theorem join_any {B m : Nat} {v : Value} {s : Ps} {w : World} (h : PAt B w m v s) (ho : OkP s) (pair me ot : Int) (hp : hasW s.L pair) (h1 : hasW s.L me) (h2 : hasW s.L ot) (hm : mtdB (ofW s.L pair).m = true) :
    Calls Try.prog 41 #[.pointer (some ⟨m, 0, none⟩), .int .i64 pair, .int .i64 me, .int .i64 ot] w fun e w' => e = .returned (.tuple #[]) ∧ PAt B w' m v (joinS s pair me ot) ∧ Fm w w' (TP m v) (TP m v) := by
  obtain ⟨i, hi, hx⟩ := has_ix hp
  obtain ⟨g, c, hv, hBg, hgw, hlc, hcm⟩ := wrow_pos h.row (by omega)
  subst hv
  have hof : ofW s.L pair = s.L[i] := ofW_at ho.so hi hx
  have HA := hidden (at_some h ho.so (by have := ho.few; omega) i hi g c rfl pair hx)
  obtain ⟨M, hM⟩ : ∃ M, s.L[i].m = M := ⟨_, rfl⟩
  obtain ⟨KA, hKA⟩ : ∃ KA, s.L[i].a = KA := ⟨_, rfl⟩
  obtain ⟨KB, hKB⟩ : ∃ KB, s.L[i].b = KB := ⟨_, rfl⟩
  rw [hof, hM] at hm
  have HC : Hid (∀ w1, Below w.heap.size w w1 → w1.cell? ⟨g, i * 8 + 3, none⟩ = some (.int .i64 KA) ∧ w1.cell? ⟨g, i * 8 + 4, none⟩ = some (.int .i64 KB) ∧ w1.cell? ⟨g, i * 8 + 5, none⟩ = some (.int .i64 M) ∧ w1.frozen? ⟨g, i * 8 + 3, none⟩ = false ∧ w1.frozen? ⟨g, i * 8 + 4, none⟩ = false) := hidden (fun w1 hb => by
    have cc := wrow_cells (h.later hb).row i hi
    rw [hM, hKA, hKB] at cc
    exact ⟨cc.2.2.2.1, cc.2.2.2.2.1, cc.2.2.2.2.2.1, wrow_frozen (h.later hb).row _, wrow_frozen (h.later hb).row _⟩)
  have HMC := hidden fun wx => measuredChild_any M wx hm
  obtain ⟨R, hR⟩ : ∃ R, M % 2 = R := ⟨_, rfl⟩
  rw [hR] at HMC
  have HK : Hid (∀ (a b : Int) w1, Below w.heap.size w w1 → PAt B ((w1.setCell ⟨g, i * 8 + 3, none⟩ (.int .i64 a)).setCell ⟨g, i * 8 + 4, none⟩ (.int .i64 b)) m (.slice (some ⟨g, 0, none⟩) s.L.length c) (joinK s pair a b 0) ∧ Fm w ((w1.setCell ⟨g, i * 8 + 3, none⟩ (.int .i64 a)).setCell ⟨g, i * 8 + 4, none⟩ (.int .i64 b)) (TP m (.slice (some ⟨g, 0, none⟩) s.L.length c)) (TP m (.slice (some ⟨g, 0, none⟩) s.L.length c)) ∧ ((w1.setCell ⟨g, i * 8 + 3, none⟩ (.int .i64 a)).setCell ⟨g, i * 8 + 4, none⟩ (.int .i64 b)).cell? ⟨g, i * 8 + 3, none⟩ = some (.int .i64 a) ∧ ((w1.setCell ⟨g, i * 8 + 3, none⟩ (.int .i64 a)).setCell ⟨g, i * 8 + 4, none⟩ (.int .i64 b)).cell? ⟨g, i * 8 + 4, none⟩ = some (.int .i64 b)) := hidden (fun a b w1 hb => by
    have h3 := h.later hb
    obtain ⟨g1, g2⟩ := h3.setW i hi 3 (by omega) (.int .i64 a) { s.L[i] with a := a } rfl
    have hl : (s.L.set i { s.L[i] with a := a }).length = s.L.length := by simp
    have g1' : PAt B (w1.setCell ⟨g, i * 8 + 3, none⟩ (.int .i64 a)) m (.slice (some ⟨g, 0, none⟩) ({ s with L := s.L.set i { s.L[i] with a := a } } : Ps).L.length c) { s with L := s.L.set i { s.L[i] with a := a } } := by
      show PAt B _ m (.slice (some ⟨g, 0, none⟩) (s.L.set i { s.L[i] with a := a }).length c) _
      rw [hl]; exact g1
    have hi2 : i < (s.L.set i { s.L[i] with a := a }).length := by rw [hl]; exact hi
    obtain ⟨g3, g4⟩ := g1'.setW i hi2 4 (by omega) (.int .i64 b) (kidsF a b s.L[i]) (by simp [wdV, kidsF])
    simp only [hl, List.set_set] at g3 g4
    have hi3 : i < (s.L.set i (kidsF a b s.L[i])).length := by rw [List.length_set]; exact hi
    have r := g3.row
    have r2 : (((w1.setCell ⟨g, i * 8 + 3, none⟩ (.int .i64 a)).setCell ⟨g, i * 8 + 4, none⟩ (.int .i64 b))).ownsRow B 79 8 (.slice (some ⟨g, 0, none⟩) (s.L.set i (kidsF a b s.L[i])).length c) (s.L.set i (kidsF a b s.L[i])).length (wdsV (s.L.set i (kidsF a b s.L[i]))) := by
      simp only [List.length_set] at r ⊢
      exact r
    have cc := wrow_cells r2 i hi3
    rw [List.getElem_set_self] at cc
    rw [upd_set ho.so hi hx] at g3
    exact ⟨g3, ((Fm.same hb).trans g2).trans g4, cc.2.2.2.1, cc.2.2.2.2.1⟩)
  have hmg : m ≠ g := fun e => h.ne (by rw [e]; rfl)
  have HJ : Hid (∀ (a b : Int), (a = me ∧ b = ot ∨ a = ot ∧ b = me) → ∀ k, k < 2 → ∀ w1, PAt B w1 m (.slice (some ⟨g, 0, none⟩) s.L.length c) (joinK s pair a b k) → ∀ x, x = (if k = 0 then a else b) → ∃ i, Hid (Calls Try.prog 36 #[.pointer (some ⟨m, 0, none⟩), .int .i64 x] w1 fun e w' => e = .returned (.pointer (some ⟨g, i * 8, none⟩)) ∧ Below w1.heap.size w1 w') ∧ (∀ w', Below w1.heap.size w1 w' → (∃ u, w'.cell? ⟨g, i * 8 + 2, none⟩ = some (.int .i64 u)) ∧ w'.frozen? ⟨g, i * 8 + 2, none⟩ = false ∧ Hid (PAt B (w'.setCell ⟨g, i * 8 + 2, none⟩ (.int .i64 pair)) m (.slice (some ⟨g, 0, none⟩) s.L.length c) (joinK s pair a b (k + 1))) ∧ Hid (Fm w1 (w'.setCell ⟨g, i * 8 + 2, none⟩ (.int .i64 pair)) (TP m (.slice (some ⟨g, 0, none⟩) s.L.length c)) (TP m (.slice (some ⟨g, 0, none⟩) s.L.length c))))) := hidden (fun a b hab k hk w1 hw1 x hx => by
    refine join_step pair a b k hk x hx hw1 ho ?_
    rcases hab with ⟨rfl, rfl⟩ | ⟨rfl, rfl⟩ <;> (rw [hx]; split <;> assumption))
  have HJS : Hid (joinS s pair me ot = if R = 0 then joinK s pair me ot 2 else joinK s pair ot me 2) := hidden (by unfold joinS; rw [hof, hM, hR])
  rw [HJS.out]
  rcases (show R = 0 ∨ R = 1 by omega) with rfl | rfl
  · rw [if_pos rfl]
    have HJ2 := hidden (HJ.out me ot (.inl ⟨rfl, rfl⟩))
    have HK2 := hidden (HK.out me ot)
    generalize hV : Value.slice (some ⟨g, 0, none⟩) s.L.length c = V at *
    generalize joinK s pair me ot = JK at *
    have i0 : ∀ w : World, (Instr.index 77 (.agg #[.int .i64 me, .int .i64 ot]) (.int .i64 0)).run Try.prog w = .ok (.int .i64 me) w := fun _ => rfl
    have i1 : ∀ w : World, (Instr.index 77 (.agg #[.int .i64 me, .int .i64 ot]) (.int .i64 1)).run Try.prog w = .ok (.int .i64 ot) w := fun _ => rfl
    have wr0 : IntKind.i64.wrap 0 = 0 := by rw [IntKind.wrap_i64]; omega
    have wr1 : IntKind.i64.wrap 1 = 1 := by rw [IntKind.wrap_i64]; omega
    clear h ho hp h1 h2 hm hx hof hM hKA hKB hR HJ HK HJS hV
    go_enter Try.func41, Try.ntmps41
    go_upto_region 2 with (first | (go_at_call 36; refine HA.out.mono ?_; rintro e w1 ⟨rfl, hb1⟩; have HB1 := hidden hb1; obtain ⟨k1, k2, k3, k4, k5⟩ := HC.out _ hb1; clear hb1) | (go_at_call 63; refine (HMC.out _).mono ?_; rintro e w2 ⟨rfl, e2⟩; rw [e2]; clear e2) | fail)
    clear HA HC HMC
    obtain ⟨HK3, HK4⟩ : Hid _ ∧ Hid _ := ⟨hidden (drew_fin (And.intro (HK2.out _ HB1.out).1 (HK2.out _ HB1.out).2.1)), hidden (HK2.out _ HB1.out).2.2⟩
    go_region_held3 (fun w' => True) (trivial) (fail)
    all_goals
      have q1 := HK4.out.1
      have q2 := HK4.out.2
      generalize ((w1.setCell ⟨g, i * 8 + 3, none⟩ (.int .i64 me)).setCell ⟨g, i * 8 + 4, none⟩ (.int .i64 ot)) = W at *
      have q3 : W.drew.cell? ⟨g, i * 8 + 3, none⟩ = some (.int .i64 me) := q1
      have q4 : W.drew.cell? ⟨g, i * 8 + 4, none⟩ = some (.int .i64 ot) := q2
      clear q1 q2 HK4 k1 k2 k3 k4 k5
      generalize W.drew = W2 at *
      go_upto_region 4 with fail
      go_loopw [37] (fun i w' => ∃ k : Nat, k ≤ 2 ∧ i = .int .i64 k ∧ Hid (PAt B w' m V (JK k)) ∧ Hid (Fm w w' (TP m V) (TP m V))) (fun i _ => 2 - (intOf i).toNat)
      case atStart => exact ⟨0, by omega, rfl, hidden HK3.out.1, hidden HK3.out.2⟩
      case round =>
        obtain ⟨k, hk, rfl, HP, HF⟩ := hrel
        rcases (show k = 0 ∨ k = 1 ∨ k = 2 by omega) with rfl | rfl | rfl
        · (try simp only [Int.natCast_zero])
          obtain ⟨ii, HAt, hst⟩ := HJ2.out 0 (by omega) wr HP.out me rfl
          have HST := hidden hst
          clear hst
          show Code.wp _ _ _ _ _
          go_wp2_with (first | (go_at_call 36; refine HAt.out.mono ?_; rintro e w4 ⟨rfl, hb4⟩; obtain ⟨⟨u4, z1⟩, z2, HP4, HF4⟩ := HST.out _ hb4; clear hb4) | fail)
          go_roundw
          case rel => exact ⟨1, by omega, by first | rfl | go_num, HP4, hidden (HF.out.trans HF4.out)⟩
          case measure => simp [intOf]
        · obtain ⟨ii, HAt, hst⟩ := HJ2.out 1 (by omega) wr HP.out ot rfl
          have HST := hidden hst
          clear hst
          show Code.wp _ _ _ _ _
          go_wp2_with (first | (go_at_call 36; refine HAt.out.mono ?_; rintro e w4 ⟨rfl, hb4⟩; obtain ⟨⟨u4, z1⟩, z2, HP4, HF4⟩ := HST.out _ hb4; clear hb4) | fail)
          go_roundw
          case rel => exact ⟨2, by omega, by first | rfl | go_num, HP4, hidden (HF.out.trans HF4.out)⟩
          case measure => simp [intOf]
        · go_wp2
          refine bodyPost_end (v := .tuple #[]) (by simp [results, Try.results41, go_sem]) rfl ⟨rfl, HP.out, HF.out⟩
  · rw [if_neg (by omega)]
    have HJ2 := hidden (HJ.out ot me (.inr ⟨rfl, rfl⟩))
    have HK2 := hidden (HK.out ot me)
    generalize hV : Value.slice (some ⟨g, 0, none⟩) s.L.length c = V at *
    generalize joinK s pair ot me = JK at *
    have i0 : ∀ w : World, (Instr.index 77 (.agg #[.int .i64 ot, .int .i64 me]) (.int .i64 0)).run Try.prog w = .ok (.int .i64 ot) w := fun _ => rfl
    have i1 : ∀ w : World, (Instr.index 77 (.agg #[.int .i64 ot, .int .i64 me]) (.int .i64 1)).run Try.prog w = .ok (.int .i64 me) w := fun _ => rfl
    have wr0 : IntKind.i64.wrap 0 = 0 := by rw [IntKind.wrap_i64]; omega
    have wr1 : IntKind.i64.wrap 1 = 1 := by rw [IntKind.wrap_i64]; omega
    clear h ho hp h1 h2 hm hx hof hM hKA hKB hR HJ HK HJS hV
    go_enter Try.func41, Try.ntmps41
    go_upto_region 2 with (first | (go_at_call 36; refine HA.out.mono ?_; rintro e w1 ⟨rfl, hb1⟩; have HB1 := hidden hb1; obtain ⟨k1, k2, k3, k4, k5⟩ := HC.out _ hb1; clear hb1) | (go_at_call 63; refine (HMC.out _).mono ?_; rintro e w2 ⟨rfl, e2⟩; rw [e2]; clear e2) | fail)
    clear HA HC HMC
    obtain ⟨HK3, HK4⟩ : Hid _ ∧ Hid _ := ⟨hidden (drew_fin (And.intro (HK2.out _ HB1.out).1 (HK2.out _ HB1.out).2.1)), hidden (HK2.out _ HB1.out).2.2⟩
    go_region_held3 (fun w' => True) (trivial) (fail)
    all_goals
      have q1 := HK4.out.1
      have q2 := HK4.out.2
      try (rw [setCell_swap w1 g (i * 8 + 3 + 1) (i * 8 + 3) _ _ (by omega)])
      generalize ((w1.setCell ⟨g, i * 8 + 3, none⟩ (.int .i64 ot)).setCell ⟨g, i * 8 + 4, none⟩ (.int .i64 me)) = W at *
      have q3 : W.drew.cell? ⟨g, i * 8 + 3, none⟩ = some (.int .i64 ot) := q1
      have q4 : W.drew.cell? ⟨g, i * 8 + 4, none⟩ = some (.int .i64 me) := q2
      clear q1 q2 HK4 k1 k2 k3 k4 k5
      generalize W.drew = W2 at *
      go_upto_region 4 with fail
      go_loopw [37] (fun i w' => ∃ k : Nat, k ≤ 2 ∧ i = .int .i64 k ∧ Hid (PAt B w' m V (JK k)) ∧ Hid (Fm w w' (TP m V) (TP m V))) (fun i _ => 2 - (intOf i).toNat)
      case atStart => exact ⟨0, by omega, rfl, hidden HK3.out.1, hidden HK3.out.2⟩
      case round =>
        obtain ⟨k, hk, rfl, HP, HF⟩ := hrel
        rcases (show k = 0 ∨ k = 1 ∨ k = 2 by omega) with rfl | rfl | rfl
        · (try simp only [Int.natCast_zero])
          obtain ⟨ii, HAt, hst⟩ := HJ2.out 0 (by omega) wr HP.out ot rfl
          have HST := hidden hst
          clear hst
          show Code.wp _ _ _ _ _
          go_wp2_with (first | (go_at_call 36; refine HAt.out.mono ?_; rintro e w4 ⟨rfl, hb4⟩; obtain ⟨⟨u4, z1⟩, z2, HP4, HF4⟩ := HST.out _ hb4; clear hb4) | fail)
          go_roundw
          case rel => exact ⟨1, by omega, by first | rfl | go_num, HP4, hidden (HF.out.trans HF4.out)⟩
          case measure => simp [intOf]
        · obtain ⟨ii, HAt, hst⟩ := HJ2.out 1 (by omega) wr HP.out me rfl
          have HST := hidden hst
          clear hst
          show Code.wp _ _ _ _ _
          go_wp2_with (first | (go_at_call 36; refine HAt.out.mono ?_; rintro e w4 ⟨rfl, hb4⟩; obtain ⟨⟨u4, z1⟩, z2, HP4, HF4⟩ := HST.out _ hb4; clear hb4) | fail)
          go_roundw
          case rel => exact ⟨2, by omega, by first | rfl | go_num, HP4, hidden (HF.out.trans HF4.out)⟩
          case measure => simp [intOf]
        · go_wp2
          refine bodyPost_end (v := .tuple #[]) (by simp [results, Try.results41, go_sem]) rfl ⟨rfl, HP.out, HF.out⟩
end Go.Proofs.Ytilfgbcbodjegaa
