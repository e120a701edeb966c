/- Layer 17, the program: a state is the last one; the last one is told. -/
import Derived.Test.YtnjeobijbbjlaaaZ17j
namespace Go.Proofs.Ytnjeobijbbjlaaa
open Go.RowKit
set_option maxHeartbeats 1000000
set_option maxRecDepth 100000
set_option linter.unusedVariables false

def pushL (most : Int) (L : List Sv) (x : Sv) : List Sv := if (L.length : Int) + 1 > most then (L ++ [x]).drop 1 else L ++ [x]
/-- what a call leaves of an Undo -/
def UR (B m : Nat) (v : Value) (most : Int) (w : World) (L : List Sv) (w' : World) : Prop := ∃ v', UAt B w' m v' most L ∧ Fm w w' (TU m v) (TU m v')
set_option maxHeartbeats 8000000 in
theorem push_any {B m : Nat} {v : Value} {most : Int} {L : List Sv} {w : World} (h : UAt B w m v most L) (hB : B ≤ w.heap.size) (hL : L.length ≤ 64) (x : Sv) (hx : x.ok) :
    Calls Try.prog 27 #[.pointer (some ⟨m, 0, none⟩), .agg #[x.r, .int .u32 x.h, x.b, x.s]] w fun e w' => e = .returned (.tuple #[]) ∧ Hid (UR B m v most w (pushL most L x) w') := by
  have hb0 : Below w.heap.size w (w.alloc (.cells #[x.r, .int .u32 x.h, x.b, x.s] 38)) := (Below.refl _ _).alloc (Nat.le_refl _) _
  have HU := hidden (h.later hb0)
  have HF0 : Hid (Fm w (w.alloc (.cells #[x.r, .int .u32 x.h, x.b, x.s] 38)) (TU m v) (TU m v)) := hidden (Fm.same hb0)
  obtain ⟨b0, b1, b2, b3⟩ := st_box w x
  have hBW : B ≤ (w.alloc (.cells #[x.r, .int .u32 x.h, x.b, x.s] 38)).heap.size := Nat.le_trans hB hb0.size
  clear h hb0
  go_enter Try.func27, Try.ntmps27
  go_upto_region 1 with fail
  generalize w.alloc (.cells #[x.r, .int .u32 x.h, x.b, x.s] 38) = W at *
  generalize w.heap.size = G at *
  obtain ⟨d0, d1, dz⟩ := HU.out.cells
  have dz1 := dz 1
  have hm := HU.out.lt
  have d1a : (W.alloc (.cells #[x.r, .int .u32 x.h, x.b, x.s] 38)).cell? ⟨m, 1, none⟩ = some v := cellLater ((Below.refl _ _).alloc (Nat.le_refl _) _) d1
  have HOW : Hid (∀ wx : World, Below W.heap.size W wx → wx.ownsRow B 38 4 v L.length (svV L)) := hidden (fun wx hb => own_later HU.out.row hb)
  have HNW : Hid (∀ wx : World, wx.heap = (W.alloc (.cells #[x.r, .int .u32 x.h, x.b, x.s] 38)).heap → ∀ j u, (svC x)[j]? = some u → wx.cell? ((⟨W.heap.size, 0, none⟩ : Addr).add j) = some u) := hidden (fun wx e j u hj => by
    have hh := heap_alloc_new W (.cells #[x.r, .int .u32 x.h, x.b, x.s] 38)
    rw [← e] at hh
    rw [Addr.add_lit, Nat.zero_add]
    simp only [World.cell?, hh]
    simpa [svC] using hj)
  have HST : Hid (∀ (wp w2 : World) (a' : Option Addr) (c' : Nat), Below W.heap.size W wp → w2.ownsRow B 38 4 (.slice a' (L.length + 1) c') (L.length + 1) (svV (L ++ [x])) → Fm wp w2 (fun j => v.ownBlock = some j) (fun j => (Value.slice a' (L.length + 1) c').ownBlock = some j) → (w2.cell? ⟨m, 1, none⟩ = some v ∧ w2.frozen? ⟨m, 1, none⟩ = false) ∧ Hid (UAt B (w2.setCell ⟨m, 1, none⟩ (.slice a' (L.length + 1) c')) m (.slice a' (L.length + 1) c') most (L ++ [x]) ∧ Fm w (w2.setCell ⟨m, 1, none⟩ (.slice a' (L.length + 1) c')) (TU m v) (TU m (.slice a' (L.length + 1) c')))) := hidden (fun wp w2 a' c' hb ho f => by
    have f2 : Fm W w2 (fun k => v.ownBlock = some k) (fun k => (Value.slice a' (L.length + 1) c').ownBlock = some k) := (Fm.same hb).trans f
    have hl : (L ++ [x]).length = L.length + 1 := by simp
    obtain ⟨g1, g2⟩ := HU.out.put f2 (L' := L ++ [x]) (by rw [hl]; exact ho) (fun y hy => by
      rcases List.mem_append.1 hy with hy | hy
      · exact HU.out.ok y hy
      · simp at hy; rw [hy]; exact hx)
    have hm2 : w2.heap[m]? = W.heap[m]? := f2.block m HU.out.lt HU.out.ne
    exact ⟨⟨by rw [World.cell?_of_block hm2]; exact d1, by rw [World.frozen?_of_block hm2]; exact dz1⟩, hidden ⟨g1, HF0.out.trans g2⟩⟩)
  have HX := hidden hx
  have HLL := hidden hL
  clear dz d0 hx hL HU HF0
  go_region_law (first | (refine step_appS (by rfl) _ _ (by rfl) B v L (by rfl) (HOW.out _ (by repeat (first | exact Below.refl _ _ | apply Below.drew | (refine Below.alloc ?_ (by first | omega | (simp; omega) | simp) _)))) _ 1 x HX.out (by rfl) (HNW.out _ (by rfl)) (by have := HLL.out; omega) (by first | omega | (simp; omega) | simp) ?_; intro a2 c2 w2 ho2 f2; obtain ⟨⟨q1, q2⟩, HG⟩ := HST.out _ _ _ _ (by repeat (first | exact Below.refl _ _ | apply Below.drew | (refine Below.alloc ?_ (by first | omega | (simp; omega) | simp) _))) ho2 f2.out; clear ho2 f2) | fail)
  all_goals
    obtain ⟨e0, e1, ez⟩ := HG.out.1.cells
    have ez1 := ez 1
    have HDL : Hid (∀ wx, Below (w2.setCell ⟨m, 1, none⟩ (.slice a2 (L.length + 1) c2)).heap.size (w2.setCell ⟨m, 1, none⟩ (.slice a2 (L.length + 1) c2)) wx → Calls Try.prog 31 #[.slice a2 (L.length + 1) c2, .int .i64 0, .int .i64 1] wx fun e w' => e = .returned (.slice a2 L.length c2) ∧ (w'.cell? ⟨m, 1, none⟩ = some (.slice a2 (L.length + 1) c2) ∧ w'.frozen? ⟨m, 1, none⟩ = false) ∧ Hid (UR B m v most w ((L ++ [x]).drop 1) (w'.setCell ⟨m, 1, none⟩ (.slice a2 L.length c2)))) := hidden (fun wx hb => by
      have hU := HG.out.1.later hb
      have hl : (L ++ [x]).length = L.length + 1 := by simp
      have ho := hU.row
      rw [hl] at ho
      have hd := sdelete_any B a2 (L.length + 1) c2 0 (L ++ [x]) wx hU.ok ho (by have := HLL.out; omega) (by omega)
      refine hd.mono (fun e w' hh => ⟨by rw [hh.1]; simp, ?_, ?_⟩)
      · have hm2 := (fm_of_grown hh.2.2.out).block m hU.lt hU.ne
        exact ⟨by rw [World.cell?_of_block hm2]; exact hU.cells.2.1, by rw [World.frozen?_of_block hm2]; exact hU.cells.2.2 1⟩
      · have h2 := hh.2.1.out
        simp only [List.take_zero, List.nil_append, Nat.zero_add, Nat.add_sub_cancel] at h2
        have hl2 : ((L ++ [x]).drop 1).length = L.length := by simp
        obtain ⟨g1, g2⟩ := hU.put (v' := .slice a2 L.length c2) (L' := (L ++ [x]).drop 1) ((fm_of_grown hh.2.2.out).to (fun k e => e) (fun k e => .inr (by cases a2 with
          | none => simp [Value.ownBlock] at e
          | some q => exact e))) (by rw [hl2]; exact h2) (fun y hy => hU.ok y (List.mem_of_mem_drop hy))
        exact hidden ⟨_, g1, HG.out.2.trans ((Fm.same hb).trans g2)⟩)
    have HKE : Hid (∀ n, UR B m v most w (L ++ [x]) ((w2.setCell ⟨m, 1, none⟩ (.slice a2 (L.length + 1) c2)).drewN n)) := hidden (fun n => ⟨_, HG.out.1.later (drewN_below (Below.refl _ _) n), HG.out.2.trans (Fm.same (drewN_below (Below.refl _ _) n))⟩)
    clear ez HNW HOW HST q1 q2 d1 d1a dz1 HG
    generalize w2.setCell ⟨m, 1, none⟩ (.slice a2 (L.length + 1) c2) = w3 at *
    by_cases hgt : (L.length : Int) + 1 > most
    · have hgt2 : ((L.length + 1 : Nat) : Int) > most := by omega
      have HP : Hid (pushL most L x = (L ++ [x]).drop 1) := hidden (by unfold pushL; rw [if_pos hgt])
      clear HKE
      go_upto_region 2 with fail
      go_quiet (fail)
      go_wp2_with (first
        | (go_at_call 31; refine (HDL.out _ (drewN_below (Below.refl _ _) _)).mono ?_; rintro e w5 ⟨rfl, ⟨f1, f2⟩, HR⟩)
        | fail)
      exact bodyPost_end (v := .tuple #[]) (by simp [results, Try.results27, go_sem]) rfl ⟨rfl, by rw [HP.out]; exact HR⟩
    · have hgt2 : ¬ (((L.length + 1 : Nat) : Int) > most) := by omega
      have HP : Hid (pushL most L x = L ++ [x]) := hidden (by unfold pushL; rw [if_neg hgt])
      clear HDL
      go_upto_region 2 with fail
      go_quiet (fail)
      go_wp2
      exact bodyPost_end (v := .tuple #[]) (by simp [results, Try.results27, go_sem]) rfl ⟨rfl, by rw [HP.out]; exact hidden (HKE.out _)⟩
end Go.Proofs.Ytnjeobijbbjlaaa
