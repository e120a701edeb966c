/- Layer 17, the program: Push of a state without rows; Pop. -/
import Derived.Test.YtnjeobijbbjlaaaZ17l
namespace Go.Proofs.Ytnjeobijbbjlaaa
open Go.RowKit
set_option maxHeartbeats 1000000
set_option maxRecDepth 100000
set_option linter.unusedVariables false

def svN (h : Int) : Sv := ⟨.slice none 0 0, h, .slice none 0 0, .slice none 0 0⟩
theorem svN_ok (h : Int) : (svN h).ok := ⟨⟨_, _, _, rfl⟩, ⟨_, _, _, rfl⟩, ⟨_, _, _, rfl⟩⟩
set_option maxHeartbeats 4000000 in
theorem upush_nil {B m : Nat} {v : Value} {most : Int} {L : List Sv} {w : World} (hU : UAt B w m v most L) (hB : B ≤ w.heap.size) (hL : L.length ≤ 64) (h : Int) :
    Calls Try.prog 17 #[.pointer (some ⟨m, 0, none⟩), .agg #[.slice none 0 0, .int .u32 h, .slice none 0 0, .slice none 0 0]] w fun e w' => e = .returned (.tuple #[]) ∧ Hid (UR B m v most w (pushL most L (svN h)) w') := by
  have hb0 : Below w.heap.size w (w.alloc (.cells #[.slice none 0 0, .int .u32 h, .slice none 0 0, .slice none 0 0] 38)) := (Below.refl _ _).alloc (Nat.le_refl _) _
  obtain ⟨b0, b1, b2, b3⟩ := st_box w (svN h)
  have HU := hidden (hU.later hb0)
  have HF0 : Hid (Fm w (w.alloc (.cells #[.slice none 0 0, .int .u32 h, .slice none 0 0, .slice none 0 0] 38)) (TU m v) (TU m v)) := hidden (Fm.same hb0)
  have HCP := hidden (fun wx => copied_nil h wx)
  have HPU : Hid (∀ wx, Below (w.alloc (.cells #[.slice none 0 0, .int .u32 h, .slice none 0 0, .slice none 0 0] 38)).heap.size (w.alloc (.cells #[.slice none 0 0, .int .u32 h, .slice none 0 0, .slice none 0 0] 38)) wx → Calls Try.prog 27 #[.pointer (some ⟨m, 0, none⟩), .agg #[.slice none 0 0, .int .u32 h, .slice none 0 0, .slice none 0 0]] wx fun e w' => e = .returned (.tuple #[]) ∧ Hid (UR B m v most w (pushL most L (svN h)) w')) := hidden (fun wx hb => (push_any (HU.out.later hb) (Nat.le_trans (Nat.le_trans hB hb0.size) hb.size) hL (svN h) (svN_ok h)).mono (fun e w' hh => by
    obtain ⟨v', h1, h2⟩ := hh.2.out
    exact ⟨hh.1, hidden ⟨v', h1, HF0.out.trans ((Fm.same hb).trans h2)⟩⟩))
  simp only [svN] at b0 b1 b2 b3
  clear hb0 HU HF0 hU hB hL
  go_enter Try.func17, Try.ntmps17
  go_upto_region 2 with fail
  generalize w.alloc (.cells #[.slice none 0 0, .int .u32 h, .slice none 0 0, .slice none 0 0] 38) = W at *
  generalize w.heap.size = G at *
  go_region_with (first
    | (go_at_call 28; refine (HCP.out _).mono ?_; rintro e w3 ⟨rfl, HB3⟩)
    | (go_at_call 27; refine (HPU.out _ (by first | exact HB3.out | exact ((Below.refl _ _).drew).trans HB3.out | exact (Below.refl _ _).drew.trans (HB3.out.mono (Nat.le_refl _)))).mono ?_; rintro e w4 ⟨rfl, HR⟩)
    | fail)
  all_goals
    exact bodyPost_end (v := .tuple #[]) (by simp [results, Try.results17, go_sem]) rfl ⟨rfl, HR⟩
end Go.Proofs.Ytnjeobijbbjlaaa
