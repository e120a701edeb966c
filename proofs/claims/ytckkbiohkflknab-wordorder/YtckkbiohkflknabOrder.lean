/- WordOrder: for every three words, of below, alike and above just one holds, with signs and without, each comparison's contrary holds just if it does not, and the order goes on. No conditions. -/
import Derived.Test.YtckkbiohkflknabHolds
namespace Go.Proofs.Ytckkbiohkflknab.wordOrder
open Go.ChangeShapes Go.WideShapes Go.ChangeAt Go.RowKit
open Go.ChangeMaps (open_string shut_string)
set_option linter.unusedVariables false

theorem hidden {p : Prop} (h : p) : Hid p := h
theorem own : ownKnob Try.prog.godebug = none := by kernel_rfl

/-- what one round of the law asks of its ten answers -/
def Fine (lt ge gt le : Int) (a b c : Int) : Prop :=
  (hB lt a b = true ∧ hB 1 a b = false ∧ hB gt a b = false ∧ hB ge a b = false ∧ hB le a b = true ∧ hB gt b a = true ∨
   hB lt a b = false ∧ hB 1 a b = true ∧ hB gt a b = false ∧ hB ge a b = true ∧ hB le a b = true ∧ hB gt b a = false ∨
   hB lt a b = false ∧ hB 1 a b = false ∧ hB gt a b = true ∧ hB ge a b = true ∧ hB le a b = false ∧ hB gt b a = false) ∧
  (hB le a b = true → hB le b c = true → hB le a c = true)

theorem fine0 (a b c : Int) (ha : 0 ≤ a) (ha' : a < 4294967296) (hb : 0 ≤ b) (hb' : b < 4294967296) : Fine 3 4 5 6 a b c := by
  unfold Fine hB
  have inj : a = b ↔ wrap32 a = wrap32 b := by unfold wrap32; omega
  simp [inj]
  omega
theorem fine1 (a b c : Int) : Fine 7 8 9 10 a b c := by
  unfold Fine hB
  simp
  omega
theorem eqne (a b : Int) : hB 2 a b = !(hB 1 a b) := by
  unfold hB; simp [bne]

set_option maxRecDepth 100000 in
set_option maxHeartbeats 2000000 in
theorem walk (a0 : Int) (a1 : Int) (a2 : Int) (w0 : (Lit.int .u32 a0).wf = true) (w1 : (Lit.int .u32 a1).wf = true) (w2 : (Lit.int .u32 a2).wf = true) (w : World) :
    Calls Try.prog 3 #[.int .u32 a0, .int .u32 a1, .int .u32 a2] w fun e w' => e = .returned (.bool true) ∧ Grown w w' := by
  have b0 := bounds_u32 w0
  have b1 := bounds_u32 w1
  obtain ⟨f0, g0⟩ := fine0 a0 a1 a2 b0.1 (by omega) b1.1 (by omega)
  obtain ⟨f1, g1⟩ := fine1 a0 a1 a2
  have ne := eqne a0 a1
  clear b0 b1 w0 w1 w2
  have HF0 := hidden f0
  have HG0 := hidden g0
  have HF1 := hidden f1
  have HG1 := hidden g1
  have HN := hidden ne
  clear f0 g0 f1 g1 ne
  go_enter Try.func3, Try.ntmps3
  go_wp2
  go_loop [7] (fun i => i = .int .i64 0 ∨ i = .int .i64 1 ∨ i = .int .i64 2) (fun i => (2 - intOf i).toNat)
  case atStart => exact Or.inl rfl
  case round =>
    rcases hrel with rfl | rfl | rfl
    · have f0 := HF0.out
      have g0 := HG0.out
      rcases f0 with ⟨x1, x2, x3, x4, x5, x6⟩ | ⟨x1, x2, x3, x4, x5, x6⟩ | ⟨x1, x2, x3, x4, x5, x6⟩
      all_goals
        cases y1 : hB 6 a1 a2 <;> cases y2 : hB 6 a0 a2 <;> first | (exfalso; simp_all; done) | skip
      all_goals
        clear g0
        go_wp2_with (go_at_call 4; refine (holds_any _ _ _ _).mono ?_; rintro e w' ⟨rfl, rfl⟩)
        go_round
        case rel => exact Or.inr (Or.inl rfl)
        case measure => simp [intOf]
    · have f1 := HF1.out
      have g1 := HG1.out
      rcases f1 with ⟨x1, x2, x3, x4, x5, x6⟩ | ⟨x1, x2, x3, x4, x5, x6⟩ | ⟨x1, x2, x3, x4, x5, x6⟩
      all_goals
        cases y1 : hB 10 a1 a2 <;> cases y2 : hB 10 a0 a2 <;> first | (exfalso; simp_all; done) | skip
      all_goals
        clear g1
        go_wp2_with (go_at_call 4; refine (holds_any _ _ _ _).mono ?_; rintro e w' ⟨rfl, rfl⟩)
        go_round
        case rel => exact Or.inr (Or.inr rfl)
        case measure => simp [intOf]
    · go_wp2_with (go_at_call 4; refine (holds_any _ _ _ _).mono ?_; rintro e w' ⟨rfl, rfl⟩)
      go_ret
      refine ⟨bool_ret ?_, Grown.refl _⟩
      rw [HN.out]; simp

set_option maxRecDepth 100000 in
theorem lifted (os : Os) (started : os.Started) (H : Type) (enc : TypeId × Value → H) :
    ReturnsInHanded {} Try.checked os 3 .any (Rows.wordOrderSpec.pre6 enc Try.prog Try.f3 Rows.wordOrderRow.domain false) (Rows.wordOrderSpec.post enc Try.prog Try.f3 false true false false) := by
  refine returnsInHanded_of_change (C := Try.checked) own started (by kernel_rfl) Try.func3
    (ChangeSpec.witness6 (enc := enc) (C := Try.checked) false ⟨#[], #[.int .u32 0, .int .u32 0, .int .u32 0], []⟩ 8 (by kernel_rfl) (by kernel_rfl) (by kernel_rfl) (by kernel_rfl)) ?_
  intro W base args ds gs before hval0 hW hcnd _
  have hval : ∀ (j : Nat) t v, Try.f3.params[j]? = some t → args[j]? = some v → Value.okWide Try.prog W .any base t v := hval0
  have hW' := hW
  obtain ⟨p, q, hA0, hV, rfl, hfz, hnd⟩ := hW
  have hA : DataW.TrodAll enc Try.prog W 0 (fun _ => true) true Try.f3.params.toList args.toList ds p := hA0
  rw [Try.params3] at hA hval
  obtain ⟨v0, vs0, d0, ds0, p0, q0, hargs, rfl, rfl, h0, r0⟩ := trodAll_cons hA
  obtain ⟨v1, vs1, d1, ds1, p1, q1, rfl, rfl, rfl, h1, r1⟩ := trodAll_cons r0
  obtain ⟨v2, vs2, d2, ds2, p2, q2, rfl, rfl, rfl, h2, r2⟩ := trodAll_cons r1
  obtain ⟨rfl, rfl, rfl⟩ := trodAll_nil r2
  obtain rfl : args = #[v0, v1, v2] := by cases args; simp_all
  obtain ⟨rfl, rfl⟩ := trodVars_none hV
  obtain ⟨a0, rfl, rfl, rfl, w0⟩ := open_int Try.underlying22 (hval 0 22 v0 rfl rfl) h0
  obtain ⟨a1, rfl, rfl, rfl, w1⟩ := open_int Try.underlying22 (hval 1 22 v1 rfl rfl) h1
  obtain ⟨a2, rfl, rfl, rfl, w2⟩ := open_int Try.underlying22 (hval 2 22 v2 rfl rfl) h2
  clear hA0 hval0
  simp only [List.append_nil] at hW'
  refine (walk a0 a1 a2 w0 w1 w2 W).mono fun e W' ⟨he, hg⟩ => ?_
  subst he
  exact ⟨_, rfl, post_of_same (pa := []) (pv := []) hW' (fun _ _ _ => (trodAll_cons_mk (shut_bool Try.underlying4 _) trodAll_mk0)) (fun sp _ => (trodAll_cons_mk (shut_int Try.underlying22 w0) (trodAll_cons_mk (shut_int Try.underlying22 w1) (trodAll_cons_mk (shut_int Try.underlying22 w2) trodAll_mk0)))) (fun _ _ => rfl) rfl
    (hg.frame _) hg.2.1 (ok_one (by kernel_rfl) rfl (okWide_bool_mk Try.underlying4 _))⟩

theorem over : Rows.wordOrderRow.holds Try.pinned (OpenSpec.ofChange Rows.wordOrderSpec) :=
  OpenClaim.holds_of_wide 3 Try.f3 rfl rfl rfl rfl rfl rfl rfl ⟨rfl, rfl, rfl, rfl, rfl⟩ rfl rfl rfl rfl rfl (by kernel_rfl) Try.func3 (by kernel_rfl)
    (of_decide_eq_true (by kernel_rfl)) (by unfold Func.isWrapper; first | (rw [if_pos (by decide +kernel)]; kernel_rfl) | (rw [if_neg (by decide +kernel)]; exact ⟨rfl, rfl⟩))
    (fun os started H enc _ => lifted os started H enc)

end Go.Proofs.Ytckkbiohkflknab.wordOrder
namespace Go.Proofs.Ytckkbiohkflknab
/-- the statement -/
theorem wordOrder_holds : Rows.WordOrderSaid := wordOrder.over
end Go.Proofs.Ytckkbiohkflknab
