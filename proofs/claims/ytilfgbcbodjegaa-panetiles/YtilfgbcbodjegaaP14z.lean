/- Layer 14, the program: the page's example's states are good. -/
import Derived.Test.YtilfgbcbodjegaaP14y
namespace Go.Proofs.Ytilfgbcbodjegaa
open Go.RowKit
set_option maxHeartbeats 1000000
set_option maxRecDepth 100000
set_option linter.unusedVariables false

theorem so_of {L : List Wd} (h : L.Pairwise (fun a b => a.n < b.n)) : Sorted L := ⟨fun i j hij hj hi => List.pairwise_iff_getElem.1 h i j hi hj hij⟩
theorem so1 : Sorted e1.L := so_of (by simp [e1])
theorem so2 : Sorted e2.L := so_of (by simp [e2])
theorem so3 : Sorted e3.L := so_of (by simp [e3])
theorem so4 : Sorted e4.L := so_of (by simp [e4])
theorem ok0 : OkL e0 := ⟨⟨by constructor; simp [e0], by decide, by simp [e0]⟩, by decide, by decide, by simp [e0]⟩
theorem ok1 : OkL e1 := ⟨⟨so1, by decide, by simp [e1]⟩, by decide, by decide, by simp [e1]⟩
theorem ok2 : OkL e2 := ⟨⟨so2, by decide, by simp [e2]⟩, by decide, by decide, by simp [e2]⟩
theorem ok3 : OkL e3 := ⟨⟨so3, by decide, by simp [e3]⟩, by decide, by decide, by simp [e3]⟩
theorem ok4 : OkL e4 := ⟨⟨so4, by decide, by simp [e4]⟩, by decide, by decide, by simp [e4]⟩
theorem par1 : ParOk e1 := by
  intro d hd h0
  simp [e1] at hd
  subst hd
  exact absurd rfl h0
theorem par2 : ParOk e2 := by
  intro d hd h0
  simp [e2] at hd
  rcases hd with rfl | rfl | rfl
  · exact ⟨by simp [hasW, e2], .inr rfl⟩
  · exact ⟨by simp [hasW, e2], .inl rfl⟩
  · exact absurd rfl h0
theorem ends3 : ∀ d ∈ e3.L, Ends e3.L 3 d.p := by
  intro d hd
  simp [e3] at hd
  rcases hd with rfl | rfl | rfl | rfl | rfl
  · exact .inr (.inr (.inl rfl))
  · exact .inr (.inl rfl)
  · exact .inl rfl
  · exact .inr (.inr (.inl rfl))
  · exact .inr (.inl rfl)
theorem up4 : Upk e3 3 4 := .inr ⟨by simp [hasW, e3, ofW], ⟨by decide, by decide, by decide⟩, .inr rfl, .inr ⟨by simp [hasW, e3, ofW], ⟨by decide, by decide, by decide⟩, .inr rfl, .inl rfl⟩⟩
theorem up1 : Upk e4 3 1 := .inr ⟨by simp [hasW, e4, ofW], ⟨by decide, by decide, by decide⟩, .inl rfl, .inl rfl⟩
end Go.Proofs.Ytilfgbcbodjegaa
