/- FindNil: a nil memory is answered with ErrNil by every search, for every search. -/
import Derived.Test.YtppgpfppmbdfhaaF13u
import Derived.ShutString
import Derived.ChangeOld
import Derived.Below
import Derived.Test.YtppgpfppmbdfhaaF13D
namespace Go.Proofs.Ytppgpfppmbdfhaa.findNil
open Go.ChangeShapes Go.WideShapes Go.ChangeAt Go.RowKit
open Go.ChangeMaps (open_string shut_string)
set_option linter.unusedVariables false

theorem own : ownKnob Try.prog.godebug = none := by kernel_rfl
theorem laidOut : laidOutB Try.prog = true := by kernel_rfl

set_option maxRecDepth 100000 in
theorem lifted (os : Os) (started : os.Started) (H : Type) (enc : TypeId × Value → H) :
    ReturnsInHanded {} Try.checked os 7 .any (Rows.findNilSpec.pre6 enc Try.prog Try.f7 Rows.findNilRow.domain false) (Rows.findNilSpec.post enc Try.prog Try.f7 false true false false) := by
  refine returnsInHanded_of_change (C := Try.checked) own started (by kernel_rfl) Try.func7
    (ChangeSpec.witness6 (enc := enc) (C := Try.checked) false ⟨#[], #[.agg #[.int .u32 0, .int .u32 0, .int .u32 0, .int .u32 0, .int .u32 0, .int .u32 0, .int .u32 0, .int .u32 0]], []⟩ 8 (by kernel_rfl) (by kernel_rfl) (by kernel_rfl) (by kernel_rfl)) ?_
  intro W base args ds gs before hval0 hW hcnd _
  have hval : ∀ (j : Nat) t v, Try.f7.params[j]? = some t → args[j]? = some v → Value.okWide Try.prog W .any base t v := hval0
  have hW' := hW
  obtain ⟨p, q, hA0, hV, rfl, hfz, hnd⟩ := hW
  have hA : DataW.TrodAll enc Try.prog W 0 (fun _ => true) true Try.f7.params.toList args.toList ds p := hA0
  rw [Try.params7] at hA hval
  obtain ⟨v0, vs0, d0, ds0, p0, q0, hargs, rfl, rfl, h0, r0⟩ := trodAll_cons hA
  obtain ⟨rfl, rfl, rfl⟩ := trodAll_nil r0
  obtain rfl : args = #[v0] := by cases args; simp_all
  obtain ⟨rfl, rfl⟩ := trodVars_none hV
  obtain ⟨a0x0, a0x1, a0x2, a0x3, a0x4, a0x5, a0x6, a0x7, rfl, rfl, rfl, w0x0, w0x1, w0x2, w0x3, w0x4, w0x5, w0x6, w0x7⟩ := open_srch (hval 0 32 v0 rfl rfl) h0
  obtain ⟨s0, ok0, rfl, rfl, rfl, rfl, rfl, rfl, rfl, rfl⟩ := srch_of w0x0 w0x1 w0x2 w0x3 w0x4 w0x5 w0x6 w0x7
  clear hA0 hval0
  refine (findNil_walk s0 W ok0).mono fun e W' ⟨he, bel⟩ => ?_
  subst he
  exact ⟨_, rfl, _, _, _, [], _, [], hW', trodAll_mk1 (shut_bool Try.underlying4 _), (trodAll_cons_mk (shut_srch _ _ _ _ _ _ _ _ w0x0 w0x1 w0x2 w0x3 w0x4 w0x5 w0x6 w0x7) trodAll_mk0), rfl, bel.frame _, fun h => by cases h⟩

theorem over : Rows.FindNilSaid :=
  OpenClaim.holds_of_wide 7 Try.f7 rfl rfl rfl rfl rfl rfl rfl ⟨rfl, rfl, rfl, rfl, rfl⟩ rfl rfl rfl rfl rfl (by kernel_rfl) Try.func7 (by kernel_rfl)
    (of_decide_eq_true (by kernel_rfl)) (by unfold Func.isWrapper; first | (rw [if_pos (by decide +kernel)]; kernel_rfl) | (rw [if_neg (by decide +kernel)]; exact ⟨rfl, rfl⟩))
    (fun os started H enc _ => lifted os started H enc)
end Go.Proofs.Ytppgpfppmbdfhaa.findNil
namespace Go.Proofs.Ytppgpfppmbdfhaa
open Go
/-- FindNil: a nil memory is answered with ErrNil by every search, for every search. -/
theorem findNil_holds : Rows.FindNilSaid := findNil.over
end Go.Proofs.Ytppgpfppmbdfhaa
