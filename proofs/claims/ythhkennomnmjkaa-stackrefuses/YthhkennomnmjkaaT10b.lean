/- The document's locals: contracts of grottoref10's Slots and Locals. -/
import Derived.Test.YthhkennomnmjkaaT10a
namespace Go.Proofs.Ythhkennomnmjkaa
open Go.RowKit
set_option maxHeartbeats 1000000
set_option maxRecDepth 100000
set_option linter.unusedVariables false

theorem infoSl : (Try.prog.info? 97).map (fun i => (i.zero, i.size, i.bytes)) = some (some (.agg #[.int .i64 0, .int .i64 0]), 2, 16) := by kernel_rfl
/-- locals as cells -/
def slV (l : List (Nat × Nat)) : List Value := l.flatMap (fun p => [.int .i64 (p.1 : Int), .int .i64 (p.2 : Int)])
theorem slV_len (l : List (Nat × Nat)) : (slV l).length = l.length * 2 := by
  induction l with
  | nil => rfl
  | cons p l ih => simp only [slV, List.flatMap_cons, List.length_append, List.length_cons, List.length_nil] at ih ⊢; rw [ih]; omega
theorem slV_snoc (l : List (Nat × Nat)) (p q : Nat) : slV l ++ [.int .i64 (p : Int), .int .i64 (q : Int)] = slV (l ++ [(p, q)]) := by
  simp [slV]
theorem slV_one (p q : Nat) : ∀ u ∈ [Value.int .i64 (p : Int), Value.int .i64 (q : Int)], u.oneCell' = true := by
  intro u hu
  simp at hu
  rcases hu with rfl | rfl <;> rfl
theorem isPairs_take : ∀ (f : List Int) (k : Nat), isPairs f → isPairs (f.take k)
  | [], k, _ => by simp [isPairs]
  | [x], k, _ => by cases k <;> simp [isPairs]
  | n :: m :: r, 0, _ => by simp [isPairs]
  | n :: m :: r, 1, _ => by simp [isPairs]
  | n :: m :: r, k + 2, h => by
    simp only [List.take_succ_cons]
    exact ⟨h.1, h.2.1, h.2.2.1, isPairs_take r k h.2.2.2⟩
theorem take_at (zs : List Int) (k i : Nat) (h : i < k) : (zs.take k).getD i 0 = zs.getD i 0 := by
  simp [List.getD_eq_getElem?_getD, h]
theorem own_shapeSl {B : Nat} {w : World} {v : Value} {ql u x : Nat} {qre : List (Nat × Nat)} (h : w.ownsRow B 97 2 v (ql + 1) (slV qre ++ [.int .i64 (u : Int), .int .i64 (x : Int)])) : ∃ a3 c3, v = .slice a3 (ql + 1) c3 ∧ Hid (w.ownsRow B 97 2 (.slice a3 (ql + 1) c3) (ql + 1) (slV (qre ++ [(u, x)]))) := by
  rw [slV_snoc] at h
  rcases h.2 with ⟨_, h2⟩ | ⟨g, cap, cur, h1, _⟩
  · omega
  · exact ⟨_, _, h1, by rw [← h1]; exact h⟩
set_option maxHeartbeats 2000000 in
theorem dslots_any (a : Option Addr) (n c : Nat) (zs : List Int) (w : World) (h : Reads w a n c zs) (hb : OkB zs) (hn : n ≤ 100000) (h0 : fmtL zs ≠ 0) (h1 : fmtL zs = zs.length) :
    Calls Try.prog 65 #[.slice a n c] w fun e w' => ∃ a' c', e = .returned (.tuple #[.slice a' (slL zs 0).length c', .int .i64 (szF zs)]) ∧ w'.ownsRow w.heap.size 97 2 (.slice a' (slL zs 0).length c') (slL zs 0).length (slV (slL zs 0)) ∧ Below w.heap.size w w' := by
  obtain ⟨i0, hi, hz0, hz1, hz2⟩ := info_parts infoSl
  have hzl := h.1
  have hne : zs ≠ [] := by intro e; rw [e] at h0; simp [fmtL] at h0
  have h2 := fmtL_two h0
  have hpr := pairs_of zs hb h0
  rw [h1, List.take_length] at hpr
  obtain ⟨s1, s2⟩ := slL_short zs 0 h1 hne
  have HPY := hidden (isPairs_take zs (zs.length - 2) hpr)
  have hyl : (zs.take (zs.length - 2)).length = n - 2 := by simp; omega
  have HS1 := hidden s1
  have HSZ : Hid (szF zs = upN (enL (zs.take (zs.length - 2)) 0) 4) := by rw [s2]; rfl
  have hbd := (enL_mono zs 0 hpr).2
  have HEB : Hid (enL (zs.take (zs.length - 2)) 0 ≤ 1785 * n) := by rw [s2, ← hzl]; show _ ≤ _; omega
  have HAT : Hid (∀ i, i + 2 < n → (zs.take (zs.length - 2)).getD i 0 = zs.getD i 0) := fun i hi => take_at zs _ i (by omega)
  have HR := hidden h
  have HO := hidden hb
  have HYL := hidden hyl
  have hcn : n ≤ c := h.2.1
  have hn2 : 2 ≤ n := by omega
  clear h hb h0 h1 hne h2 hpr s1 s2 hyl hbd hzl
  generalize zs.take (zs.length - 2) = ys at *
  go_enter Try.func65, Try.ntmps65
  go_wp2
  go_loopw [4, 5, 6] (fun v at_ i wr => ∃ (k p pl : Nat) (pre : List (Nat × Nat)) (a' : Option Addr) (c' : Nat), k ≤ n ∧ i = .int .i64 k ∧ at_ = .int .i64 p ∧ v = .slice a' pl c' ∧ pl ≤ 128 * k ∧ p ≤ 893 * k ∧ Hid (pre.length = pl) ∧ Hid (wr.ownsRow w.heap.size 97 2 (.slice a' pl c') pl (slV pre)) ∧ Hid (Below w.heap.size w wr) ∧ Hid (isPairs (ys.drop k)) ∧ Hid (pre ++ slL (ys.drop k) p = slL ys 0) ∧ Hid (enL (ys.drop k) p = enL ys 0)) (fun _ _ i _ => n + 2 - (intOf i).toNat)
  case atStart => exact ⟨0, 0, 0, [], none, 0, by omega, rfl, rfl, rfl, by omega, by omega, rfl, World.ownsRow_nil _ _ _ _, Below.refl _ _, by rw [List.drop_zero]; exact HPY, by rw [List.drop_zero]; rfl, by rw [List.drop_zero]; exact (rfl : enL ys 0 = enL ys 0)⟩
  case round =>
    clear HPY
    obtain ⟨k, p, pl, pre, a', c', hk, rfl, rfl, rfl, hpl, hpk, HPL, HOW, HB, HP, HE, HEN⟩ := hrel
    have hw3 : IntKind.i64.wrap ((k : Int) + 3) = (k : Int) + 3 := by rw [IntKind.wrap_i64]; omega
    by_cases hlt : k + 3 < n
    · have hl' : k + 1 < ys.length := by rw [HYL.out]; omega
      have b0 := okb_at HO.out k
      have b1 := okb_at HO.out (k + 1)
      have g0 := HAT.out k (by omega)
      have g1 := HAT.out (k + 1) (by omega)
      obtain ⟨e1, e2⟩ := slL_two ys k p hl'
      have hpp := HP.out
      rw [drop_two ys k hl'] at hpp
      obtain ⟨hw, hk0, hk1, hpr⟩ := hpp
      have HE1 := hidden ((congrArg (pre ++ ·) e1).symm.trans HE.out)
      have HN1 := hidden (e2.symm.trans HEN.out)
      rw [g0, g1] at HE1 HN1 hw
      have HRC : Hid (∀ wx, Below w.heap.size w wx → ∃ g o, a = some ⟨g, o, none⟩ ∧ wx.cell? ⟨g, o + k, none⟩ = some (.int .u8 (zs.getD k 0)) ∧ wx.cell? ⟨g, o + (k + 1), none⟩ = some (.int .u8 (zs.getD (k + 1) 0))) := fun wx hbx => by
        obtain ⟨g, o, e, hB⟩ := (HR.out.later hbx).bs (by omega)
        exact ⟨g, o, e, hB.2 k (by omega), hB.2 (k + 1) (by omega)⟩
      clear e1 e2 HE HEN hl' HP g0 g1 hk0 hk1
      generalize zs.getD k 0 = x at *
      generalize zs.getD (k + 1) 0 = y at *
      obtain ⟨x, rfl⟩ := Int.eq_ofNat_of_zero_le b0.1
      obtain ⟨y, rfl⟩ := Int.eq_ofNat_of_zero_le b1.1
      simp only [Int.toNat_natCast] at HE1 HN1
      have HPR := hidden hpr
      have hw' : x = 1 ∨ x = 2 ∨ x = 4 ∨ y = 0 := by omega
      have d1 : (k : Int) + 3 < (n : Int) := by omega
      have hw1 : IntKind.i64.wrap ((k : Int) + 1) = (k : Int) + 1 := by rw [IntKind.wrap_i64]; omega
      have hw2 : IntKind.i64.wrap ((k : Int) + 2) = (k : Int) + 2 := by rw [IntKind.wrap_i64]; omega
      have t1 : ((k : Int) + 1).toNat = k + 1 := by omega
      have wx8 : IntKind.i64.wrap (x : Int) = x := by rw [IntKind.wrap_i64]; omega
      have wy8 : IntKind.i64.wrap (y : Int) = y := by rw [IntKind.wrap_i64]; omega
      obtain ⟨g, o, rfl, _, _⟩ := HRC.out _ HB.out
      clear hpr hw
      go_wp2
      generalize hwq : wr = wq at *
      clear hwq
      go_loopw [4, 5, 7] (fun v at_ i wr => ∃ (j r ql : Nat) (qre : List (Nat × Nat)) (a' : Option Addr) (c' : Nat), j ≤ y ∧ i = .int .i64 j ∧ at_ = .int .i64 r ∧ v = .slice a' ql c' ∧ ql ≤ 128 * k + j ∧ r ≤ 893 * k + 7 * j ∧ Hid (qre.length = ql) ∧ Hid (wr.ownsRow w.heap.size 97 2 (.slice a' ql c') ql (slV qre)) ∧ Hid (Below w.heap.size w wr) ∧ Hid (qre ++ (slR x (y - j) r ++ slL (ys.drop (k + 2)) (enR x (y - j) r)) = slL ys 0) ∧ Hid (enL (ys.drop (k + 2)) (enR x (y - j) r) = enL ys 0)) (fun _ _ i _ => y - (intOf i).toNat)
      case atStart => exact ⟨0, p, pl, pre, a', c', by omega, rfl, rfl, rfl, by omega, by omega, HPL, HOW, HB, by rw [Nat.sub_zero]; exact HE1, by rw [Nat.sub_zero]; exact HN1⟩
      case round =>
        clear HPL HOW HB HE1 HN1
        obtain ⟨j, r, ql, qre, a2, c2, hj, rfl, rfl, rfl, hql, hr, HQL, HOW, HB, HE2, HN2⟩ := hrel
        obtain ⟨g', o', e', c0, c1⟩ := HRC.out _ HB.out
        simp only [Option.some.injEq, Addr.mk.injEq, and_true] at e'
        obtain ⟨rfl, rfl⟩ := e'
        by_cases hjl : j < y
        · have hxw : x = 1 ∨ x = 2 ∨ x = 4 := by omega
          have hub := upN_bd r x hxw
          have HU := hidden fun wx => dup_any r x wx hxw (by omega)
          have e3 : y - j = (y - (j + 1)) + 1 := by omega
          rw [e3, slR, enR] at HE2
          rw [e3, enR] at HN2
          obtain ⟨hub0, hub1, _⟩ := hub
          have hx4 : x ≤ 4 := by omega
          have hws : wr.heap.size < wr.heap.size + 1 := by omega
          have HBS := hidden HB.out.size
          generalize upN r x = u at *
          have hwu : IntKind.i64.wrap ((u : Int) + (x : Int)) = (u : Int) + (x : Int) := by rw [IntKind.wrap_i64]; omega
          have d2 : (j : Int) < (y : Int) := by omega
          have hwj : IntKind.i64.wrap ((j : Int) + 1) = (j : Int) + 1 := by rw [IntKind.wrap_i64]; omega
          have HNW : Hid (∀ jj uu, [Value.int .i64 (u : Int), Value.int .i64 (x : Int)][jj]? = some uu → (wr.alloc (.cells #[.int .i64 (u : Int), .int .i64 (x : Int)] 97)).cell? ((⟨wr.heap.size, 0, none⟩ : Addr).add jj) = some uu) := fun jj uu hjj => by
            have hh := heap_alloc_new wr (.cells #[.int .i64 (u : Int), .int .i64 (x : Int)] 97)
            rw [plain_add]
            unfold World.cell?
            simp only
            rw [hh]
            simpa using hjj
          have HOA : Hid ((wr.alloc (.cells #[.int .i64 (u : Int), .int .i64 (x : Int)] 97)).ownsRow w.heap.size 97 2 (.slice a2 ql c2) ql (slV qre)) := HOW.out.alloc _
          have HCL : Hid (∀ (w2 : World) (v2 : Value), (wr.alloc (.cells #[.int .i64 (u : Int), .int .i64 (x : Int)] 97)).grownBy w2 (Value.slice a2 ql c2).ownBlock → Below w.heap.size w w2) := fun w2 v2 hg => (HB.out.alloc HB.out.size _).grown hg (by have := HB.out.size; simp; omega) (fun jj e => (HOW.out.lt jj e).1)
          clear hw' e3 hub0
          go_wp2_with (first | (go_at_call 86; refine (HU.out _).mono ?_; rintro e w1 ⟨rfl, e1⟩; rw [e1]; clear e1) | (at_builtin; refine wpList_append_at rfl _ _ 92 rfl w.heap.size 97 i0 (.agg #[.int .i64 0, .int .i64 0]) 2 16 Try.underlying92 hi hz0 hz1 hz2 rfl (by decide) (.slice a2 ql c2) ql (slV qre) rfl HOA.out ⟨wr.heap.size, 0, none⟩ 1 1 [.int .i64 (u : Int), .int .i64 (x : Int)] rfl rfl HNW.out (slV_one u x) (by unfold maxLen; omega) (by omega) (by have := HBS.out; simp; omega) (by omega) ?_; intro v' w2 hown' hgrow hat; have HBB := hidden (HCL.out w2 v' hgrow); obtain ⟨a3, c3, e3, HO3⟩ : ∃ a3 c3, v' = .slice a3 (ql + 1) c3 ∧ Hid (w2.ownsRow w.heap.size 97 2 (.slice a3 (ql + 1) c3) (ql + 1) (slV (qre ++ [(u, x)]))) := own_shapeSl hown'; subst e3; obtain ⟨gg, oo, ee, cc0, cc1⟩ := HRC.out _ HBB.out; simp only [Option.some.injEq, Addr.mk.injEq, and_true] at ee; obtain ⟨rfl, rfl⟩ := ee; clear hown' hgrow hat))
          go_roundw
          case rel => exact ⟨j + 1, u + x, ql + 1, qre ++ [(u, x)], a3, c3, by omega, int_eq (by omega), int_eq (by omega), rfl, by omega, by omega, by have := HQL.out; show (qre ++ [(u, x)]).length = _; simp; omega, HO3, HBB, (pre_mid HE2.out).2, HN2⟩
          case measure => simp [intOf]; omega
        · obtain rfl : j = y := by omega
          have d2 : ¬ (j : Int) < (j : Int) := by omega
          rw [Nat.sub_self] at HE2 HN2
          go_wp2
          go_roundw
          case rel => exact ⟨k + 2, r, ql, qre, a2, c2, by omega, int_eq (by omega), rfl, rfl, by omega, by omega, HQL, HOW, HB, HPR, HE2, HN2⟩
          case measure => simp [intOf]; omega
    · have d1 : ¬ (k : Int) + 3 < (n : Int) := by omega
      obtain ⟨f1, f2⟩ := slL_few ys k p (by rw [HYL.out]; omega)
      have e1 := HE.out
      rw [f1, List.append_nil] at e1
      have e2 := HEN.out
      rw [f2] at e2
      have HU : Hid (∀ wx, Calls Try.prog 86 #[.int .i64 p, .int .i64 4] wx fun e w' => e = .returned (.int .i64 (szF zs)) ∧ w' = wx) := fun wx => by
        have := dup4_any p wx (by omega)
        rw [e2, ← HSZ.out] at this
        rw [e2]; exact this
      have HFIN : Hid (pl = (slL zs 0).length ∧ slV pre = slV (slL zs 0)) := ⟨by rw [← HS1.out, ← e1, HPL.out], by rw [e1, HS1.out]⟩
      clear e1 e2 f1 f2 HE HEN
      go_wp2_with (first | (go_at_call 86; refine (HU.out _).mono ?_; rintro e w1 ⟨rfl, rfl⟩))
      go_ret2
      obtain ⟨q1, q2⟩ := HFIN.out
      refine ⟨a', c', by rw [← q1]; rfl, ?_, HB.out⟩
      rw [← q1, ← q2]; exact HOW.out
end Go.Proofs.Ythhkennomnmjkaa
