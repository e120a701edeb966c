/- Package stack's chain: the closure that hands over frame by frame. -/
import Derived.Test.YthhkennomnmjkaaV10b
import Derived.Shelf.Abstract
import Derived.Shelf.RegionOpen
import Derived.WalkKit
import Derived.OwnWalkIn
import Derived.TacticsInMore
import Derived.LoopNIn
import Derived.LoopIn
namespace Go.Proofs.Ythhkennomnmjkaa
open Go.RowKit Go.Shelf
set_option maxHeartbeats 1000000
set_option maxRecDepth 100000
set_option linter.unusedVariables false
attribute [local go_sem] Oper.semAt_some

theorem kchain1_in (n : Nat) (h1 : 1 ≤ n) (l Bb Bf : Nat) (a : Option Addr) (L c : Nat) (zs : List Int) (hb : OkB zs) (hL : L ≤ 2000000)
    (J J' : Nat × Nat → World → Prop) (Jx Rd Dn : World → Prop) (hRd : ∀ W1 W2, KeepsOthers W1 W2 → Rd W1 → Rd W2)
    (hY : ∀ x W1, J x W1 → Rd W1 → YieldAt Fence.wide (n - 1) Try.prog l #[.int .i64 x.1, .int .i64 x.2] W1 fun e W' => (e = .returned (.bool true) ∧ J' x W' ∧ Rd W') ∨ (e = .returned (.bool false) ∧ Jx W' ∧ Dn W'))
    (hC : ∀ x W, J x W → W.heap[Bf]? = some (.cells #[.int .i64 x.1] 3 (0, 0)))
    (hC' : ∀ x W, J' x W → W.heap[Bf]? = some (.cells #[.int .i64 x.1] 3 (0, 0)) ∧ W.heap[Bb]? = some (.cells #[.slice a L c] 24 (0, 0)) ∧ Reads W a L c zs ∧ (x.1 ≠ 0 → 4 ≤ x.1 ∧ x.1 ≤ L ∧ x.1 < x.2 ∧ ∀ q, J (nu zs (x.1 - 4), x.1) ((W.drewN q).setCell ⟨Bf, 0, none⟩ (.int .i64 (nu zs (x.1 - 4))))))
    (W : World) (f : Nat) (hB0 : W.heap[Bb]? = some (.cells #[.slice a L c] 24 (0, 0))) (h0 : J (f, L) W) (hr : Rd W) :
    CallsIn Fence.wide n Try.prog 91 #[.func (.yield l) #[] #[], .pointer (some ⟨Bb, 0, none⟩), .pointer (some ⟨Bf, 0, none⟩)] W fun e W' => (∃ v, e = .returned v) ∧ (((∃ t, J' (0, t) W') ∧ Rd W') ∨ (Jx W' ∧ Dn W')) := by
  have cb0 := cell_of_one hB0
  have HY := hidden hY
  have HC := hidden hC
  have HC' := hidden hC'
  have HRD := hidden hRd
  have HB := hidden hb
  clear hY hC hC' hRd hB0 hb
  refine callsIn_of_wp Try.func91 rfl trivial ?_ rfl
  simp only [Try.ntmps91, List.size_toArray, List.length_cons, List.length_nil, Nat.reduceAdd, Nat.reduceSub, Array.replicate_succ, Array.replicate_zero, List.push_toArray, List.append_toArray, List.nil_append, List.cons_append]
  gi_wp2
  gi_loopw [4] (fun p wr => ∃ (f t : Nat), p = .int .i64 t ∧ Hid (J (f, t) wr ∧ Rd wr)) (fun p _ => (intOf p).toNat)
  case atStart => exact ⟨f, L, rfl, h0, hr⟩
  case round =>
    obtain ⟨f, t, rfl, HJ⟩ := hrel
    have cf := cell_of_one (HC.out _ _ HJ.out.1)
    obtain ⟨fn, tmps, assign, body, hy, hR⟩ := HY.out (f, t) wr HJ.out.1 HJ.out.2
    dsimp only at hy cf
    gi_wp2
    refine hR.mono ?_
    rintro e W3 (⟨rfl, hj3, hr3⟩ | ⟨rfl, hx3, hd3⟩)
    · obtain ⟨bf, bb, rd, hnx⟩ := HC'.out _ _ hj3
      dsimp only at bf hnx
      have cf3 := cell_of_one bf
      have cb3 := cell_of_one bb
      have ff3 := free_of_one bf
      have HJ3 := hidden hj3
      have HR3 := hidden hr3
      clear hj3 hr3 bf bb hy hR cf cb0
      by_cases hz : f = 0
      · subst hz
        have q0 : ((0 : Int) == 0) = true := rfl
        gi_wp2
        go_end0
        exact ⟨⟨_, rfl⟩, .inl ⟨⟨t, HJ3.out⟩, HR3.out⟩⟩
      · obtain ⟨k1, k2, k3, k4⟩ := hnx hz
        have HN : Hid (Calls Try.prog 54 #[.slice a L c, .int .i64 ((f - 4 : Nat) : Int)] W3.drew fun e w' => e = .returned (.int .u32 (nu zs (f - 4))) ∧ w' = W3.drew) := knum_any a L c (f - 4) zs _ (rd.later (Dr.below ⟨1, rfl⟩)) HB.out (by omega) hL
        have e4 : ((f - 4 : Nat) : Int) = (f : Int) - 4 := by omega
        rw [e4] at HN
        have hlt := nu_lt HB.out (f - 4)
        have HK4 := hidden k4
        generalize nu zs (f - 4) = X at *
        have w1 : IntKind.i64.wrap ((f : Int) - 4) = (f : Int) - 4 := by rw [IntKind.wrap_i64]; omega
        have w2 : IntKind.i64.wrap (X : Int) = (X : Int) := by rw [IntKind.wrap_i64]; omega
        have q1 : ((f : Int) == 0) = false := by simp; omega
        have q2 : ¬ (f : Int) = 0 := by omega
        clear hnx rd e4 k4
        gi_wp2
        refine wpIn_wide.2 ?_
        go_region_law (first | (go_simp; (with_reducible refine HN.out.mono ?_); rintro e w1 ⟨rfl, rfl⟩) | fail)
        all_goals (try go_wp2)
        all_goals (
          exact ⟨⟨X, f, rfl, HK4.out 1, HRD.out W3 _ ((KeepsOthers.setCell _ _ _).trans (KeepsOthers.drew _)) HR3.out⟩, by simp [intOf]; omega⟩)
    · clear hy hR cf cb0
      have HX3 := hidden hx3
      have HD3 := hidden hd3
      clear hx3 hd3
      gi_wp2
      go_end0
      exact ⟨⟨_, rfl⟩, .inr ⟨HX3.out, HD3.out⟩⟩
theorem kchain_any (a : Option Addr) (n c f : Nat) (w : World) :
    Calls Try.prog 88 #[.slice a n c, .int .i64 f] w fun e w' => e = .returned (.func (.func 91) #[] #[.pointer (some ⟨w.heap.size, 0, none⟩), .pointer (some ⟨w.heap.size + 1, 0, none⟩)]) ∧ w' = (w.alloc (.cells #[.slice a n c] 24)).alloc (.cells #[.int .i64 f] 3) := by
  have hmf : ∀ (fn : Fn) (first cap : Array Value) (w : World), (Instr.makeFunc fn first cap).run Try.prog w = .ok (.func fn first cap) w := fun _ _ _ _ => rfl
  go_enter Try.func88, Try.ntmps88
  go_wp2
  go_ret
  exact ⟨by simp, rfl⟩
end Go.Proofs.Ythhkennomnmjkaa
