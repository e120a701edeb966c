/- The walk of StackPushes: what is pushed is popped, the last first, and then all is as it was. -/
import Derived.Test.YtgmiemekcloknaaM10F
namespace Go.Proofs.Ytgmiemekcloknaa
open Go.RowKit
set_option maxHeartbeats 1000000
set_option maxRecDepth 100000
set_option linter.unusedVariables false

theorem stackPushes_walk (ao : Option Addr) (len cap : Nat) (rs : List Ac) (va : Option Addr) (vlen vcap : Nat) (vzs : List Int) (w : World) (hA : IsActs w ao len cap rs) (hV : IsRow .u32 w va vlen vcap vzs) :
    Calls Try.prog 4 #[.slice ao len cap, .slice va vlen vcap] w fun e w' => e = .returned (.bool true) ∧ Below w.heap.size w w' := by
  have HLV : Hid (∀ w1, Below w.heap.size w w1 → Calls Try.prog 9 #[] w1 fun e w' => e = .returned (.bool true) ∧ Below w.heap.size w w') := fun w1 hb => (live_any w1).mono (fun e w' hh => ⟨hh.1, hb.trans (hh.2.mono hb.size)⟩)
  obtain ⟨xs, hv, hvc, hvl⟩ := vrow_of hV
  have HH := hidden (huge_any ao len cap rs w hA)
  cases hu : hugeB rs with
  | true =>
    rw [hu] at HH
    clear hA hV hv hu
    go_enter Try.func4, Try.ntmps4
    go_wp2_with (first | (go_at_call 21; refine HH.out.mono ?_; rintro e wh ⟨rfl, hbh⟩) | (go_at_call 9; refine (HLV.out _ hbh).mono ?_; rintro e wl ⟨rfl, hbl⟩))
    go_ret
    exact ⟨rfl, hbl⟩
  | false =>
  rw [hu] at HH
  by_cases hbig : 8192 < vlen
  · have d1 : (8192 : Int) < (vlen : Int) := by omega
    clear hA hV hv hu
    go_enter Try.func4, Try.ntmps4
    go_wp2_with (first | (go_at_call 21; refine HH.out.mono ?_; rintro e wh ⟨rfl, hbh⟩) | (go_at_call 9; refine (HLV.out _ hbh).mono ?_; rintro e wl ⟨rfl, hbl⟩))
    go_ret
    exact ⟨rfl, hbl⟩
  have d1 : ¬ (8192 : Int) < (vlen : Int) := by omega
  have hvl2 : vlen ≤ 8192 := by omega
  have hln := hv.ln
  have HBG := hidden (fun wh (hb : Below w.heap.size w wh) => begin_at ao len cap rs w wh hA hu hb)
  obtain ⟨b, o, hva⟩ : ∃ b o, 0 < vlen → va = some ⟨b, o, none⟩ := by
    by_cases h0 : 0 < vlen
    · obtain ⟨b, o, e, _⟩ := hv.cells 0 h0
      exact ⟨b, o, fun _ => e⟩
    · exact ⟨0, 0, fun h => absurd h h0⟩
  have HVR : Hid (∀ wx, Below w.heap.size w wx → ∀ i, i < vlen → wx.cell? ⟨b, o + i, none⟩ = some (.int .u32 (xs.getD i 0 : Nat)) ∧ xs.getD i 0 < 4294967296) := fun wx hb i hi => by
    obtain ⟨b', o', e, hc⟩ := hv.cells i hi
    have e2 := hva (by omega)
    rw [e] at e2
    cases e2
    refine ⟨cellLater hb hc, hv.bd _ ?_⟩
    rw [List.getD_eq_getElem?_getD, List.getElem?_eq_getElem (by rw [hln]; exact hi)]
    simp
  have HXB := hidden hv.bd
  clear hA hV hv hu hbig
  go_enter Try.func4, Try.ntmps4
  go_wp2_with (first | (go_at_call 21; refine HH.out.mono ?_; rintro e wh ⟨rfl, hbh⟩) | (go_at_call 22; refine (HBG.out _ hbh).mono ?_; rintro e wb ⟨m, rfl, s, RG, HO⟩) | (go_at_call 18; refine (RG.out.bytes HO.out.1).mono ?_; rintro e wc ⟨a', c', gs, rfl, hrow, rg2, _, _⟩; have HRW := hidden hrow; have RG2 := hidden rg2; clear hrow rg2))
  have HL : Hid (s.bs.length ≤ 2048) := by have := HO.out.1.sz; have := HO.out.2; show _ ≤ _; omega
  have hL := HL.out
  have HTOP : Hid (∀ k, k < vlen → s.on = true → peekE (stV s (xs.take (k + 1))) 0 = 0 ∧ peekV (stV s (xs.take (k + 1))) 0 = xs.getD k 0 ∧ popS (stV s (xs.take (k + 1))) = stV s (xs.take k)) := fun k hk hon => by
    rw [take_snoc xs k (by omega)]
    exact stV_top HO.out.1 hon (xs.take k) (xs.getD k 0) (fun y hy => HXB.out y (by rw [← take_snoc xs k (by omega)] at hy; exact List.mem_of_mem_take hy))
  clear RG HBG HH hbh
  go_loopw [7] (fun n wr => ∃ k : Nat, k ≤ vlen ∧ n = .int .i64 k ∧ Hid (RunG w.heap.size m w wr (stV s (xs.take k)) gs) ∧ Hid (OkK (stV s (xs.take k))) ∧ Hid (RowIn wr a' s.bs.length c' s.bs gs) ∧ Hid (k = 0 ∨ s.on = true)) (fun n _ => vlen - (intOf n).toNat)
  case atStart => exact ⟨0, by omega, rfl, by rw [List.take_zero, stV_nil]; exact RG2, by rw [List.take_zero, stV_nil]; exact HO.out.1, HRW, Or.inl rfl⟩
  case round =>
    clear RG2 HRW
    obtain ⟨k, hk, rfl, RG, HK, HRW, HON⟩ := hrel
    by_cases hlt : k < vlen
    · have q1 : (k : Int) < (vlen : Int) := by omega
      obtain ⟨v1, v2⟩ := HVR.out wr RG.out.base k hlt
      have ee := hva (by omega)
      subst ee
      have HPU := hidden (RG.out.kPush HK.out (xs.getD k 0) v2)
      have w5 : IntKind.i64.wrap ((k : Int) + 1) = (k : Int) + 1 := by rw [IntKind.wrap_i64]; omega
      by_cases hA : pushE (stV s (xs.take k)) = 0
      · have HS1 : Hid (pushS (stV s (xs.take k)) (xs.getD k 0) = stV s (xs.take (k + 1))) := by rw [stV_push _ hA, take_snoc xs k (by omega)]; exact (rfl : stV s _ = stV s _)
        have HK1 := hidden (ok_push HK.out (xs.getD k 0))
        have hn1 : (stV s (xs.take k)).on = true := push_on hA
        have HN1 : Hid (s.on = true) := hn1
        clear hn1
        rw [hA] at HPU
        generalize xs.getD k 0 = x at *
        go_wp2_with (first | (go_at_call 23; refine HPU.out.mono ?_; rintro e w1 ⟨rfl, r1, k1⟩; have R1 := hidden r1; have K1 := hidden k1; clear r1 k1) | (go_at_call 11; refine (num10 _ _).mono ?_; rintro e w9 ⟨rfl, e9⟩; rw [e9]; clear e9))
        go_roundw
        case rel => exact ⟨k + 1, by omega, int_eq (by omega), by rw [← HS1.out]; exact R1, by rw [← HS1.out]; exact HK1, HRW.out.kept K1.out, Or.inr HN1.out⟩
        case measure => simp [intOf]; omega
      · obtain ⟨n1, n2⟩ := stV_no (s := s) (xs := xs.take k) (xs.getD k 0) hA
        rw [n1] at HPU
        rw [show (xs.take k).length = k by simp; omega, HO.out.2] at n2
        have hA' : ¬ ((pushE (stV s (xs.take k)) : Nat) : Int) = 0 := by omega
        have hA2 : (((pushE (stV s (xs.take k)) : Nat) : Int) == 0) = false := by simp; omega
        generalize pushE (stV s (xs.take k)) = E at *
        generalize xs.getD k 0 = x at *
        by_cases hcd : s.bs.length + 4 * k + 4 ≤ 2048
        · have hoff := n2 hcd
          have u1 : IntKind.i64.wrap (4 * (k : Int)) = 4 * (k : Int) := by rw [IntKind.wrap_i64]; omega
          have u2 : IntKind.i64.wrap ((s.bs.length : Int) + 4 * (k : Int)) = (s.bs.length : Int) + 4 * (k : Int) := by rw [IntKind.wrap_i64]; omega
          have u3 : IntKind.i64.wrap ((s.bs.length : Int) + 4 * (k : Int) + 4) = (s.bs.length : Int) + 4 * (k : Int) + 4 := by rw [IntKind.wrap_i64]; omega
          have u4 : (s.bs.length : Int) + 4 * (k : Int) + 4 ≤ 2048 := by omega
          go_wp2_with (first | (go_at_call 23; refine HPU.out.mono ?_; rintro e w1 ⟨rfl, r1, kk1⟩; have R1 := hidden r1; have K1 := hidden kk1; have HFR := hidden (r1.kFrame HK.out); rw [show (stV s (xs.take k)).on = false from hoff] at HFR; clear r1 kk1) | (go_at_call 11; refine (num10 _ _).mono ?_; rintro e w9 ⟨rfl, e9⟩; rw [e9]; clear e9) | (go_at_call 24; refine HFR.out.mono ?_; rintro e wf ⟨rfl, ef⟩; rw [ef]; clear ef))
          have HTO := hidden (R1.out.kTop HK.out)
          have HRW1 := hidden (HRW.out.kept K1.out)
          have t1 : ¬ (2048 : Int) < (((stV s (xs.take k)).bs.length : Nat) : Int) := by have := HK.out.sz; have : (stV s (xs.take k)).size = 2048 := HO.out.2; omega
          obtain ⟨K1, HK1, w6⟩ : ∃ K1 : Int, Hid (K1 = (k : Int) - 1) ∧ IntKind.i64.wrap ((k : Int) - 1) = K1 := ⟨(k : Int) - 1, hidden rfl, by rw [IntKind.wrap_i64]; omega⟩
          have HTP := hidden (fun j (hj : j < k) => HTOP.out j (by omega) (HON.out.resolve_left (by omega)))
          refine HTO.out.mono ?_
          rintro e wt ⟨rfl, et⟩
          rw [et]
          clear et HTO HON HTOP
          generalize (stV s (xs.take k)).bs.length = TL at *
          go_wp2
          clear t1
          go_loopw [10] (fun i wr => ∃ j : Nat, j ≤ k ∧ i = .int .i64 ((j : Int) - 1) ∧ Hid (RunG w.heap.size m w wr (stV s (xs.take k)) gs) ∧ Hid (RowIn wr a' s.bs.length c' s.bs gs)) (fun i _ => (intOf i + 1).toNat)
          case atStart => exact ⟨k, by omega, int_eq HK1.out, R1, HRW1⟩
          case round =>
            clear R1 HRW1
            obtain ⟨j, hj, rfl, R2, HRW2⟩ := hrel
            cases j with
            | zero =>
              have ez : (((0 : Nat) : Int) - 1) = -1 := rfl
              rw [ez]
              go_wp2
              clear w6
              go_loopw [13] (fun i wr => ∃ j : Nat, j ≤ k ∧ i = .int .i64 ((j : Int) - 1) ∧ Hid (RunG w.heap.size m w wr (stV s (xs.take j)) gs) ∧ Hid (OkK (stV s (xs.take j))) ∧ Hid (RowIn wr a' s.bs.length c' s.bs gs)) (fun i _ => (intOf i + 1).toNat)
              case atStart => exact ⟨k, by omega, int_eq HK1.out, R2, HK, HRW2⟩
              case round =>
                clear R2 HRW2 HK
                obtain ⟨j, hj, rfl, R3, HK3, HRW3⟩ := hrel
                cases j with
                | zero =>
                  have ez : (((0 : Nat) : Int) - 1) = -1 := rfl
                  rw [ez]
                  rw [List.take_zero, stV_nil] at R3
                  have HBY := hidden (R3.out.bytes HO.out.1)
                  have HOB := hidden HO.out.1.okb
                  clear HK3 HTP HVR
                  go_wp2_with (first | (go_at_call 18; refine HBY.out.mono ?_; rintro e w5 ⟨a5, c5, gs5, rfl, hrow5, r5, _, k5⟩; have HBS := hidden (same_eq a5 a' s.bs.length c5 s.bs.length c' s.bs w5 HOB.out hrow5.1 (HRW3.out.kept k5).1); have HB5 := hidden r5.base; clear hrow5 r5 k5) | (go_at_call 17; refine HBS.out.mono ?_; rintro e w6 ⟨rfl, e6⟩; rw [e6]; clear e6) | (go_at_call 9; refine (HLV.out _ HB5.out).mono ?_; rintro e wl ⟨rfl, hbl⟩))
                  go_ret
                  exact ⟨rfl, hbl⟩
                | succ j =>
                  have ej : (((j + 1 : Nat) : Int) - 1) = (j : Int) := by omega
                  rw [ej]
                  obtain ⟨h1, h2, h3⟩ := HTP.out j (by omega)
                  have HPO := hidden (R3.out.kPop HK3.out)
                  have HK4 := hidden (ok_pop HK3.out)
                  rw [h3] at HK4
                  rw [h1, h2, h3] at HPO
                  have HY := hidden (fun w5 (hb5 : Below w.heap.size w w5) => (HVR.out w5 hb5 j (by omega)).1)
                  have ee := hva (by omega)
                  first | subst ee | clear ee
                  have g0 : (0 : Int) ≤ (j : Int) := by omega
                  have g1 : IntKind.i64.wrap ((j : Int) - 1) = (j : Int) - 1 := by rw [IntKind.wrap_i64]; omega
                  have g2 : (j : Int) < (vlen : Int) := by omega
                  clear h1 h2 h3
                  generalize xs.getD j 0 = x at *
                  go_wp2_with (first | (go_at_call 26; refine HPO.out.mono ?_; rintro e w5 ⟨rfl, r5, k5⟩; have R5 := hidden r5; have K5 := hidden k5; have y1 := HY.out w5 r5.base; clear r5 k5) | (go_at_call 11; refine (num10 _ _).mono ?_; rintro e w9 ⟨rfl, e9⟩; rw [e9]; clear e9))
                  go_roundw
                  case rel =>
                    exact ⟨j, by omega, rfl, R5, HK4, HRW3.out.kept K5.out⟩
                  case measure => simp [intOf]
            | succ j =>
              clear w6
              have ej : (((j + 1 : Nat) : Int) - 1) = (j : Int) := by omega
              rw [ej]
              have HPE := hidden (R2.out.peek HK.out (k - 1 - j) (by omega))
              have HY := hidden (fun w5 (hb5 : Below w.heap.size w w5) => (HVR.out w5 hb5 j (by omega)).1)
              have ee := hva (by omega)
              first | subst ee | clear ee
              have g0 : (0 : Int) ≤ (j : Int) := by omega
              have g1 : IntKind.i64.wrap ((j : Int) - 1) = (j : Int) - 1 := by rw [IntKind.wrap_i64]; omega
              have g2 : (j : Int) < (vlen : Int) := by omega
              have g3 : IntKind.i64.wrap ((k : Int) - 1 - (j : Int)) = ((k - 1 - j : Nat) : Int) := by rw [IntKind.wrap_i64]; omega
              have g4 : IntKind.u32.wrap ((k - 1 - j : Nat) : Int) = ((k - 1 - j : Nat) : Int) := by rw [IntKind.wrap_u32]; omega
              by_cases hjk : j + 1 = k
              · obtain ⟨h1, h2, _⟩ := HTP.out j (by omega)
                rw [hjk] at h1 h2
                rw [show k - 1 - j = 0 by omega, h1, h2] at HPE
                rw [show k - 1 - j = 0 by omega] at g4
                have w6 : IntKind.i64.wrap ((k : Int) - 1) = (j : Int) := by rw [IntKind.wrap_i64]; omega
                have g3' : IntKind.i64.wrap 0 = 0 := by rw [IntKind.wrap_i64]; rfl
                clear h1 h2 g3
                generalize xs.getD j 0 = x at *
                go_wp2_with (first | (go_at_call 25; refine HPE.out.mono ?_; rintro e w5 ⟨rfl, r5, k5⟩; have R5 := hidden r5; have K5 := hidden k5; have y1 := HY.out w5 r5.base; clear r5 k5) | (go_at_call 11; refine (num10 _ _).mono ?_; rintro e w9 ⟨rfl, e9⟩; rw [e9]; clear e9))
                go_roundw
                case rel => exact ⟨j, by omega, rfl, R5, HRW2.out.kept K5.out⟩
                case measure => simp [intOf]
              · have w6 : IntKind.i64.wrap ((k : Int) - 1) = (k : Int) - 1 := by rw [IntKind.wrap_i64]; omega
                have g5 : ¬ (j : Int) = (k : Int) - 1 := by omega
                have g6 : ((j : Int) == (k : Int) - 1) = false := by simp; omega
                generalize k - 1 - j = P at *
                generalize peekV (stV s (xs.take k)) P = V at *
                generalize peekE (stV s (xs.take k)) P = E2 at *
                go_wp2_with (first | (go_at_call 25; refine HPE.out.mono ?_; rintro e w5 ⟨rfl, r5, k5⟩; have R5 := hidden r5; have K5 := hidden k5; clear r5 k5) | (go_at_call 11; refine (num10 _ _).mono ?_; rintro e w9 ⟨rfl, e9⟩; rw [e9]; clear e9))
                go_roundw
                case rel => exact ⟨j, by omega, rfl, R5, HRW2.out.kept K5.out⟩
                case measure => simp [intOf]
        · have u1 : IntKind.i64.wrap (4 * (k : Int)) = 4 * (k : Int) := by rw [IntKind.wrap_i64]; omega
          have u2 : IntKind.i64.wrap ((s.bs.length : Int) + 4 * (k : Int)) = (s.bs.length : Int) + 4 * (k : Int) := by rw [IntKind.wrap_i64]; omega
          have u3 : IntKind.i64.wrap ((s.bs.length : Int) + 4 * (k : Int) + 4) = (s.bs.length : Int) + 4 * (k : Int) + 4 := by rw [IntKind.wrap_i64]; omega
          have u4 : ¬ (s.bs.length : Int) + 4 * (k : Int) + 4 ≤ 2048 := by omega
          go_wp2_with (first | (go_at_call 23; refine HPU.out.mono ?_; rintro e w1 ⟨rfl, r1, kk1⟩; have R1 := hidden r1; have K1 := hidden kk1; clear r1 kk1) | (go_at_call 11; refine (num10 _ _).mono ?_; rintro e w9 ⟨rfl, e9⟩; rw [e9]; clear e9))
          have HTO := hidden (R1.out.kTop HK.out)
          have HRW1 := hidden (HRW.out.kept K1.out)
          have t1 : ¬ (2048 : Int) < (((stV s (xs.take k)).bs.length : Nat) : Int) := by have := HK.out.sz; have : (stV s (xs.take k)).size = 2048 := HO.out.2; omega
          obtain ⟨K1, HK1, w6⟩ : ∃ K1 : Int, Hid (K1 = (k : Int) - 1) ∧ IntKind.i64.wrap ((k : Int) - 1) = K1 := ⟨(k : Int) - 1, hidden rfl, by rw [IntKind.wrap_i64]; omega⟩
          have HTP := hidden (fun j (hj : j < k) => HTOP.out j (by omega) (HON.out.resolve_left (by omega)))
          refine HTO.out.mono ?_
          rintro e wt ⟨rfl, et⟩
          rw [et]
          clear et HTO HON HTOP
          generalize (stV s (xs.take k)).bs.length = TL at *
          go_wp2
          clear t1
          go_loopw [10] (fun i wr => ∃ j : Nat, j ≤ k ∧ i = .int .i64 ((j : Int) - 1) ∧ Hid (RunG w.heap.size m w wr (stV s (xs.take k)) gs) ∧ Hid (RowIn wr a' s.bs.length c' s.bs gs)) (fun i _ => (intOf i + 1).toNat)
          case atStart => exact ⟨k, by omega, int_eq HK1.out, R1, HRW1⟩
          case round =>
            clear R1 HRW1
            obtain ⟨j, hj, rfl, R2, HRW2⟩ := hrel
            cases j with
            | zero =>
              have ez : (((0 : Nat) : Int) - 1) = -1 := rfl
              rw [ez]
              go_wp2
              clear w6
              go_loopw [13] (fun i wr => ∃ j : Nat, j ≤ k ∧ i = .int .i64 ((j : Int) - 1) ∧ Hid (RunG w.heap.size m w wr (stV s (xs.take j)) gs) ∧ Hid (OkK (stV s (xs.take j))) ∧ Hid (RowIn wr a' s.bs.length c' s.bs gs)) (fun i _ => (intOf i + 1).toNat)
              case atStart => exact ⟨k, by omega, int_eq HK1.out, R2, HK, HRW2⟩
              case round =>
                clear R2 HRW2 HK
                obtain ⟨j, hj, rfl, R3, HK3, HRW3⟩ := hrel
                cases j with
                | zero =>
                  have ez : (((0 : Nat) : Int) - 1) = -1 := rfl
                  rw [ez]
                  rw [List.take_zero, stV_nil] at R3
                  have HBY := hidden (R3.out.bytes HO.out.1)
                  have HOB := hidden HO.out.1.okb
                  clear HK3 HTP HVR
                  go_wp2_with (first | (go_at_call 18; refine HBY.out.mono ?_; rintro e w5 ⟨a5, c5, gs5, rfl, hrow5, r5, _, k5⟩; have HBS := hidden (same_eq a5 a' s.bs.length c5 s.bs.length c' s.bs w5 HOB.out hrow5.1 (HRW3.out.kept k5).1); have HB5 := hidden r5.base; clear hrow5 r5 k5) | (go_at_call 17; refine HBS.out.mono ?_; rintro e w6 ⟨rfl, e6⟩; rw [e6]; clear e6) | (go_at_call 9; refine (HLV.out _ HB5.out).mono ?_; rintro e wl ⟨rfl, hbl⟩))
                  go_ret
                  exact ⟨rfl, hbl⟩
                | succ j =>
                  have ej : (((j + 1 : Nat) : Int) - 1) = (j : Int) := by omega
                  rw [ej]
                  obtain ⟨h1, h2, h3⟩ := HTP.out j (by omega)
                  have HPO := hidden (R3.out.kPop HK3.out)
                  have HK4 := hidden (ok_pop HK3.out)
                  rw [h3] at HK4
                  rw [h1, h2, h3] at HPO
                  have HY := hidden (fun w5 (hb5 : Below w.heap.size w w5) => (HVR.out w5 hb5 j (by omega)).1)
                  have ee := hva (by omega)
                  first | subst ee | clear ee
                  have g0 : (0 : Int) ≤ (j : Int) := by omega
                  have g1 : IntKind.i64.wrap ((j : Int) - 1) = (j : Int) - 1 := by rw [IntKind.wrap_i64]; omega
                  have g2 : (j : Int) < (vlen : Int) := by omega
                  clear h1 h2 h3
                  generalize xs.getD j 0 = x at *
                  go_wp2_with (first | (go_at_call 26; refine HPO.out.mono ?_; rintro e w5 ⟨rfl, r5, k5⟩; have R5 := hidden r5; have K5 := hidden k5; have y1 := HY.out w5 r5.base; clear r5 k5) | (go_at_call 11; refine (num10 _ _).mono ?_; rintro e w9 ⟨rfl, e9⟩; rw [e9]; clear e9))
                  go_roundw
                  case rel =>
                    exact ⟨j, by omega, rfl, R5, HK4, HRW3.out.kept K5.out⟩
                  case measure => simp [intOf]
            | succ j =>
              clear w6
              have ej : (((j + 1 : Nat) : Int) - 1) = (j : Int) := by omega
              rw [ej]
              have HPE := hidden (R2.out.peek HK.out (k - 1 - j) (by omega))
              have HY := hidden (fun w5 (hb5 : Below w.heap.size w w5) => (HVR.out w5 hb5 j (by omega)).1)
              have ee := hva (by omega)
              first | subst ee | clear ee
              have g0 : (0 : Int) ≤ (j : Int) := by omega
              have g1 : IntKind.i64.wrap ((j : Int) - 1) = (j : Int) - 1 := by rw [IntKind.wrap_i64]; omega
              have g2 : (j : Int) < (vlen : Int) := by omega
              have g3 : IntKind.i64.wrap ((k : Int) - 1 - (j : Int)) = ((k - 1 - j : Nat) : Int) := by rw [IntKind.wrap_i64]; omega
              have g4 : IntKind.u32.wrap ((k - 1 - j : Nat) : Int) = ((k - 1 - j : Nat) : Int) := by rw [IntKind.wrap_u32]; omega
              by_cases hjk : j + 1 = k
              · obtain ⟨h1, h2, _⟩ := HTP.out j (by omega)
                rw [hjk] at h1 h2
                rw [show k - 1 - j = 0 by omega, h1, h2] at HPE
                rw [show k - 1 - j = 0 by omega] at g4
                have w6 : IntKind.i64.wrap ((k : Int) - 1) = (j : Int) := by rw [IntKind.wrap_i64]; omega
                have g3' : IntKind.i64.wrap 0 = 0 := by rw [IntKind.wrap_i64]; rfl
                clear h1 h2 g3
                generalize xs.getD j 0 = x at *
                go_wp2_with (first | (go_at_call 25; refine HPE.out.mono ?_; rintro e w5 ⟨rfl, r5, k5⟩; have R5 := hidden r5; have K5 := hidden k5; have y1 := HY.out w5 r5.base; clear r5 k5) | (go_at_call 11; refine (num10 _ _).mono ?_; rintro e w9 ⟨rfl, e9⟩; rw [e9]; clear e9))
                go_roundw
                case rel => exact ⟨j, by omega, rfl, R5, HRW2.out.kept K5.out⟩
                case measure => simp [intOf]
              · have w6 : IntKind.i64.wrap ((k : Int) - 1) = (k : Int) - 1 := by rw [IntKind.wrap_i64]; omega
                have g5 : ¬ (j : Int) = (k : Int) - 1 := by omega
                have g6 : ((j : Int) == (k : Int) - 1) = false := by simp; omega
                generalize k - 1 - j = P at *
                generalize peekV (stV s (xs.take k)) P = V at *
                generalize peekE (stV s (xs.take k)) P = E2 at *
                go_wp2_with (first | (go_at_call 25; refine HPE.out.mono ?_; rintro e w5 ⟨rfl, r5, k5⟩; have R5 := hidden r5; have K5 := hidden k5; clear r5 k5) | (go_at_call 11; refine (num10 _ _).mono ?_; rintro e w9 ⟨rfl, e9⟩; rw [e9]; clear e9))
                go_roundw
                case rel => exact ⟨j, by omega, rfl, R5, HRW2.out.kept K5.out⟩
                case measure => simp [intOf]
    · have q1 : ¬ (k : Int) < (vlen : Int) := by omega
      have R1 := RG
      obtain ⟨w1, hw1⟩ : ∃ w1, w1 = wr := ⟨_, rfl⟩
      have K1 : Hid (Kept wr w1 gs) := by rw [hw1]; exact fun g hg => rfl
      subst hw1
      go_wp2_with fail
      have HTO := hidden (R1.out.kTop HK.out)
      have HRW1 := hidden (HRW.out.kept K1.out)
      have t1 : ¬ (2048 : Int) < (((stV s (xs.take k)).bs.length : Nat) : Int) := by have := HK.out.sz; have : (stV s (xs.take k)).size = 2048 := HO.out.2; omega
      obtain ⟨K1, HK1, w6⟩ : ∃ K1 : Int, Hid (K1 = (k : Int) - 1) ∧ IntKind.i64.wrap ((k : Int) - 1) = K1 := ⟨(k : Int) - 1, hidden rfl, by rw [IntKind.wrap_i64]; omega⟩
      have HTP := hidden (fun j (hj : j < k) => HTOP.out j (by omega) (HON.out.resolve_left (by omega)))
      refine HTO.out.mono ?_
      rintro e wt ⟨rfl, et⟩
      rw [et]
      clear et HTO HON HTOP
      generalize (stV s (xs.take k)).bs.length = TL at *
      go_wp2
      clear t1
      go_loopw [10] (fun i wr => ∃ j : Nat, j ≤ k ∧ i = .int .i64 ((j : Int) - 1) ∧ Hid (RunG w.heap.size m w wr (stV s (xs.take k)) gs) ∧ Hid (RowIn wr a' s.bs.length c' s.bs gs)) (fun i _ => (intOf i + 1).toNat)
      case atStart => exact ⟨k, by omega, int_eq HK1.out, R1, HRW1⟩
      case round =>
        clear R1 HRW1
        obtain ⟨j, hj, rfl, R2, HRW2⟩ := hrel
        cases j with
        | zero =>
          have ez : (((0 : Nat) : Int) - 1) = -1 := rfl
          rw [ez]
          go_wp2
          clear w6
          go_loopw [13] (fun i wr => ∃ j : Nat, j ≤ k ∧ i = .int .i64 ((j : Int) - 1) ∧ Hid (RunG w.heap.size m w wr (stV s (xs.take j)) gs) ∧ Hid (OkK (stV s (xs.take j))) ∧ Hid (RowIn wr a' s.bs.length c' s.bs gs)) (fun i _ => (intOf i + 1).toNat)
          case atStart => exact ⟨k, by omega, int_eq HK1.out, R2, HK, HRW2⟩
          case round =>
            clear R2 HRW2 HK
            obtain ⟨j, hj, rfl, R3, HK3, HRW3⟩ := hrel
            cases j with
            | zero =>
              have ez : (((0 : Nat) : Int) - 1) = -1 := rfl
              rw [ez]
              rw [List.take_zero, stV_nil] at R3
              have HBY := hidden (R3.out.bytes HO.out.1)
              have HOB := hidden HO.out.1.okb
              clear HK3 HTP HVR
              go_wp2_with (first | (go_at_call 18; refine HBY.out.mono ?_; rintro e w5 ⟨a5, c5, gs5, rfl, hrow5, r5, _, k5⟩; have HBS := hidden (same_eq a5 a' s.bs.length c5 s.bs.length c' s.bs w5 HOB.out hrow5.1 (HRW3.out.kept k5).1); have HB5 := hidden r5.base; clear hrow5 r5 k5) | (go_at_call 17; refine HBS.out.mono ?_; rintro e w6 ⟨rfl, e6⟩; rw [e6]; clear e6) | (go_at_call 9; refine (HLV.out _ HB5.out).mono ?_; rintro e wl ⟨rfl, hbl⟩))
              go_ret
              exact ⟨rfl, hbl⟩
            | succ j =>
              have ej : (((j + 1 : Nat) : Int) - 1) = (j : Int) := by omega
              rw [ej]
              obtain ⟨h1, h2, h3⟩ := HTP.out j (by omega)
              have HPO := hidden (R3.out.kPop HK3.out)
              have HK4 := hidden (ok_pop HK3.out)
              rw [h3] at HK4
              rw [h1, h2, h3] at HPO
              have HY := hidden (fun w5 (hb5 : Below w.heap.size w w5) => (HVR.out w5 hb5 j (by omega)).1)
              have ee := hva (by omega)
              first | subst ee | clear ee
              have g0 : (0 : Int) ≤ (j : Int) := by omega
              have g1 : IntKind.i64.wrap ((j : Int) - 1) = (j : Int) - 1 := by rw [IntKind.wrap_i64]; omega
              have g2 : (j : Int) < (vlen : Int) := by omega
              clear h1 h2 h3
              generalize xs.getD j 0 = x at *
              go_wp2_with (first | (go_at_call 26; refine HPO.out.mono ?_; rintro e w5 ⟨rfl, r5, k5⟩; have R5 := hidden r5; have K5 := hidden k5; have y1 := HY.out w5 r5.base; clear r5 k5) | (go_at_call 11; refine (num10 _ _).mono ?_; rintro e w9 ⟨rfl, e9⟩; rw [e9]; clear e9))
              go_roundw
              case rel =>
                exact ⟨j, by omega, rfl, R5, HK4, HRW3.out.kept K5.out⟩
              case measure => simp [intOf]
        | succ j =>
          clear w6
          have ej : (((j + 1 : Nat) : Int) - 1) = (j : Int) := by omega
          rw [ej]
          have HPE := hidden (R2.out.peek HK.out (k - 1 - j) (by omega))
          have HY := hidden (fun w5 (hb5 : Below w.heap.size w w5) => (HVR.out w5 hb5 j (by omega)).1)
          have ee := hva (by omega)
          first | subst ee | clear ee
          have g0 : (0 : Int) ≤ (j : Int) := by omega
          have g1 : IntKind.i64.wrap ((j : Int) - 1) = (j : Int) - 1 := by rw [IntKind.wrap_i64]; omega
          have g2 : (j : Int) < (vlen : Int) := by omega
          have g3 : IntKind.i64.wrap ((k : Int) - 1 - (j : Int)) = ((k - 1 - j : Nat) : Int) := by rw [IntKind.wrap_i64]; omega
          have g4 : IntKind.u32.wrap ((k - 1 - j : Nat) : Int) = ((k - 1 - j : Nat) : Int) := by rw [IntKind.wrap_u32]; omega
          by_cases hjk : j + 1 = k
          · obtain ⟨h1, h2, _⟩ := HTP.out j (by omega)
            rw [hjk] at h1 h2
            rw [show k - 1 - j = 0 by omega, h1, h2] at HPE
            rw [show k - 1 - j = 0 by omega] at g4
            have w6 : IntKind.i64.wrap ((k : Int) - 1) = (j : Int) := by rw [IntKind.wrap_i64]; omega
            have g3' : IntKind.i64.wrap 0 = 0 := by rw [IntKind.wrap_i64]; rfl
            clear h1 h2 g3
            generalize xs.getD j 0 = x at *
            go_wp2_with (first | (go_at_call 25; refine HPE.out.mono ?_; rintro e w5 ⟨rfl, r5, k5⟩; have R5 := hidden r5; have K5 := hidden k5; have y1 := HY.out w5 r5.base; clear r5 k5) | (go_at_call 11; refine (num10 _ _).mono ?_; rintro e w9 ⟨rfl, e9⟩; rw [e9]; clear e9))
            go_roundw
            case rel => exact ⟨j, by omega, rfl, R5, HRW2.out.kept K5.out⟩
            case measure => simp [intOf]
          · have w6 : IntKind.i64.wrap ((k : Int) - 1) = (k : Int) - 1 := by rw [IntKind.wrap_i64]; omega
            have g5 : ¬ (j : Int) = (k : Int) - 1 := by omega
            have g6 : ((j : Int) == (k : Int) - 1) = false := by simp; omega
            generalize k - 1 - j = P at *
            generalize peekV (stV s (xs.take k)) P = V at *
            generalize peekE (stV s (xs.take k)) P = E2 at *
            go_wp2_with (first | (go_at_call 25; refine HPE.out.mono ?_; rintro e w5 ⟨rfl, r5, k5⟩; have R5 := hidden r5; have K5 := hidden k5; clear r5 k5) | (go_at_call 11; refine (num10 _ _).mono ?_; rintro e w9 ⟨rfl, e9⟩; rw [e9]; clear e9))
            go_roundw
            case rel => exact ⟨j, by omega, rfl, R5, HRW2.out.kept K5.out⟩
            case measure => simp [intOf]
end Go.Proofs.Ytgmiemekcloknaa
