/- Layer 14: the walk of PaneNil; an act by value, opened. -/
import Derived.Test.YtoijkhcmkkghpabQ14c
import Derived.Lib.SmallJoins
import Derived.ChangeSame
namespace Go.Proofs.Ytoijkhcmkkghpab
open Go.RowKit Go.ChangeShapes Go.WideShapes
set_option maxHeartbeats 1000000
set_option maxRecDepth 100000
set_option linter.unusedVariables false

theorem list6s {α : Type} {l : List α} (h : l.length = 6) : ∃ c0 c1 c2 c3 c4 c5, l = [c0, c1, c2, c3, c4, c5] := by
  match l, h with
  | [c0, c1, c2, c3, c4, c5], _ => exact ⟨c0, c1, c2, c3, c4, c5, rfl⟩
/-- an act: its kind, its three numbers, its size, whether it is near -/
structure Ac where
  k : Int
  a : Int
  b : Int
  c : Int
  s : Int
  near : Bool
def Ac.ok (x : Ac) : Prop := (Lit.int .i64 x.k).wf = true ∧ (Lit.int .i64 x.a).wf = true ∧ (Lit.int .i64 x.b).wf = true ∧ (Lit.int .i64 x.c).wf = true ∧ (Lit.int .u32 x.s).wf = true
theorem open_ac {H : Type} {enc : TypeId × Value → H} {W : World} {r : Reach} {b0 : Nat} {sp : Nat → Bool} {v : Value} {d : DataW H} {p : List MemPlace}
    (hv : Value.okWide Try.prog W r b0 47 v) (h : DataW.Trod enc Try.prog W 0 sp true 47 v d p) :
    ∃ x : Ac, v = .agg #[.int .i64 x.k, .int .i64 x.a, .int .i64 x.b, .int .i64 x.c, .int .u32 x.s, .bool x.near] ∧ x.ok := by
  obtain ⟨cs, rfl, hsz⟩ := okWide_struct Try.underlying47 hv
  have hsz6 : cs.toList.length = 6 := by
    have : Try.prog.cellsOf 47 = 6 := by kernel_rfl
    rw [this] at hsz
    simpa using hsz
  obtain ⟨c0, c1, c2, c3, c4, c5, hcs⟩ := list6s hsz6
  obtain ⟨fuel, hf⟩ := h
  obtain ⟨xs, n, _, hx, _, hlen, hfld⟩ := DataW.trod_struct Try.underlying47 hf
  obtain ⟨y0, y1, y2, y3, y4, y5, rfl⟩ := list6s (l := xs) hlen
  have e1 : Try.prog.cellsOf 45 = 1 := by kernel_rfl
  have e2 : Try.prog.cellsOf 3 = 1 := by kernel_rfl
  have e3 : Try.prog.cellsOf 4 = 1 := by kernel_rfl
  have hcl : (Value.agg cs).cells.toList = [c0, c1, c2, c3, c4, c5] := by simpa [Value.cells] using hcs
  rw [hcl] at hfld
  have t0 := hfld 0 _ rfl
  have t1 := hfld 1 _ rfl
  have t2 := hfld 2 _ rfl
  have t3 := hfld 3 _ rfl
  have t4 := hfld 4 _ rfl
  have t5 := hfld 5 _ rfl
  simp [e1, e2, e3] at t0 t1 t2 t3 t4 t5
  obtain ⟨x0, q0, rfl, w0⟩ := DataW.trod_int Try.underlying3 t0
  obtain ⟨x1, q1, rfl, w1⟩ := DataW.trod_int Try.underlying3 t1
  obtain ⟨x2, q2, rfl, w2⟩ := DataW.trod_int Try.underlying3 t2
  obtain ⟨x3, q3, rfl, w3⟩ := DataW.trod_int Try.underlying3 t3
  obtain ⟨x4, q4, rfl, w4⟩ := DataW.trod_int Try.underlying45 t4
  obtain ⟨x5, q5, rfl⟩ := DataW.trod_bool Try.underlying4 t5
  simp at q0 q1 q2 q3 q4 q5
  subst q0 q1 q2 q3 q4 q5
  refine ⟨⟨x0, x1, x2, x3, x4, x5⟩, ?_, w0, w1, w2, w3, w4⟩
  have : cs = #[.int .i64 x0, .int .i64 x1, .int .i64 x2, .int .i64 x3, .int .u32 x4, .bool x5] := by
    obtain ⟨l⟩ := cs
    simp at hcs
    simp [hcs]
  rw [this]
/-- an act that lies in a block of its own -/
def AcAt (w : World) (b : Nat) (x : Ac) : Prop := w.heap[b]? = some (.cells #[.int .i64 x.k, .int .i64 x.a, .int .i64 x.b, .int .i64 x.c, .int .u32 x.s, .bool x.near] 47 (0, 0))
theorem AcAt.later {w w' : World} {b : Nat} {x : Ac} (h : AcAt w b x) (hb : Below w.heap.size w w') : AcAt w' b x := by
  unfold AcAt at h ⊢
  rw [hb.block b (Array.getElem?_eq_some_iff.1 h).1]; exact h
theorem AcAt.cells {w : World} {b : Nat} {x : Ac} (h : AcAt w b x) : w.cell? ⟨b, 1, none⟩ = some (.int .i64 x.a) ∧ w.cell? ⟨b, 2, none⟩ = some (.int .i64 x.b) ∧ w.cell? ⟨b, 3, none⟩ = some (.int .i64 x.c) ∧ w.cell? ⟨b, 4, none⟩ = some (.int .u32 x.s) ∧ w.cell? ⟨b, 0, none⟩ = some (.int .i64 x.k) ∧ w.cell? ⟨b, 5, none⟩ = some (.bool x.near) := by
  unfold AcAt at h
  exact ⟨by simp [World.cell?, h], by simp [World.cell?, h], by simp [World.cell?, h], by simp [World.cell?, h], by simp [World.cell?, h], by simp [World.cell?, h]⟩
set_option maxHeartbeats 4000000 in
theorem paneNil_walk (x : Ac) (w : World) (ok : x.ok) : Calls Try.prog 6 #[.agg #[.int .i64 x.k, .int .i64 x.a, .int .i64 x.b, .int .i64 x.c, .int .u32 x.s, .bool x.near]] w fun e w' => e = .returned (.bool true) ∧ Below w.heap.size w w' := by
  have HX : Hid (AcAt (w.alloc (.cells #[.int .i64 x.k, .int .i64 x.a, .int .i64 x.b, .int .i64 x.c, .int .u32 x.s, .bool x.near] 47)) w.heap.size x) := hidden (heap_alloc_new w _)
  have HB : Hid (Below w.heap.size w (w.alloc (.cells #[.int .i64 x.k, .int .i64 x.a, .int .i64 x.b, .int .i64 x.c, .int .u32 x.s, .bool x.near] 47))) := hidden ((Below.refl _ _).alloc (Nat.le_refl _) _)
  have HU := hidden (fun w1 => num_any 8 w1 (by omega) (by omega))
  clear ok
  go_enter Try.func6, Try.ntmps6
  go_upto_region 2 with fail
  generalize w.alloc (.cells #[.int .i64 x.k, .int .i64 x.a, .int .i64 x.b, .int .i64 x.c, .int .u32 x.s, .bool x.near] 47) = w1 at *
  obtain ⟨b, hb⟩ : ∃ b, w.heap.size = b := ⟨_, rfl⟩
  have HBB := hidden hb
  rw [hb] at HX HB ⊢
  clear hb
  obtain ⟨c1, c2, c3, c4, c0, c5⟩ := HX.out.cells
  go_upto_region 6 with (first | (go_at_call 19; refine (open_nil _ _ _ _ _).mono ?_; rintro e w2 ⟨rfl, e2⟩; rw [e2]; clear e2) | (go_at_call 17; refine (close_nil _ _).mono ?_; rintro e w2 ⟨rfl, e2⟩; rw [e2]; clear e2) | (go_at_call 24; refine (arrangement_nil _ _).mono ?_; rintro e w2 ⟨rfl, e2⟩; rw [e2]; clear e2) | (go_at_call 25; refine (kids_nil _ _).mono ?_; rintro e w2 ⟨rfl, e2⟩; rw [e2]; clear e2) | fail)
  go_upto_region 7 with (first | (go_at_call 12; refine (rect_nil _ _).mono ?_; rintro e w3 ⟨rfl, hb3⟩; replace HX := hidden (HX.out.later hb3); have HB3 := hidden hb3; clear hb3) | fail)
  have HR : Hid (RcAt (w3.alloc (.cells #[.int .i64 0, .int .i64 0, .int .i64 0, .int .i64 0] 37)) w3.heap.size 0 0 0 0) := hidden (heap_alloc_new w3 _)
  have HA : Hid (Below w3.heap.size w3 (w3.alloc (.cells #[.int .i64 0, .int .i64 0, .int .i64 0, .int .i64 0] 37))) := hidden ((Below.refl _ _).alloc (Nat.le_refl _) _)
  replace HX := hidden (HX.out.later HA.out)
  replace HB := hidden ((HB.out.trans (HB3.out.mono (Nat.le_trans (Nat.le_of_eq HBB.out.symm) HB.out.size))).trans (HA.out.mono (Nat.le_trans (Nat.le_trans (Nat.le_of_eq HBB.out.symm) HB.out.size) HB3.out.size)))
  clear HB3 HA c0 c1 c2 c3 c4 c5
  generalize w3.alloc (.cells #[.int .i64 0, .int .i64 0, .int .i64 0, .int .i64 0] 37) = w4 at *
  generalize w3.heap.size = R at *
  obtain ⟨c1, c2, c3, c4, c0, c5⟩ := HX.out.cells
  go_upto_region 9 with (first | (go_at_call 10; refine (HU.out _).mono ?_; rintro e w5 ⟨rfl, e2⟩; rw [e2]; clear e2) | (go_at_call 18; refine (arrange_nil _ _ _ _ _).mono ?_; rintro e w2 ⟨rfl, e2⟩; rw [e2]; clear e2) | (go_at_call 11; refine (resize_nil _ _ _).mono ?_; rintro e w2 ⟨rfl, e2⟩; rw [e2]; clear e2) | fail)
  obtain ⟨r0, r1, r2, r3⟩ := HR.out.cells
  have q1 : ∀ (w : World), (binOp .eql 37 (.agg #[.int .i64 0, .int .i64 0, .int .i64 0, .int .i64 0]) (.agg #[.int .i64 0, .int .i64 0, .int .i64 0, .int .i64 0])).run Try.prog w = .ok (.bool true) w := fun w => by kernel_rfl
  have HKP : Hid (∀ wx, Below w4.heap.size w4 wx → wx.cell? ⟨b, 1, none⟩ = some (.int .i64 x.a) ∧ wx.cell? ⟨R, 0, none⟩ = some (.int .i64 0) ∧ wx.cell? ⟨R, 1, none⟩ = some (.int .i64 0) ∧ wx.cell? ⟨R, 2, none⟩ = some (.int .i64 0) ∧ wx.cell? ⟨R, 3, none⟩ = some (.int .i64 0)) := hidden (fun wx hx => ⟨(HX.out.later hx).cells.1, (HR.out.later hx).cells.1, (HR.out.later hx).cells.2.1, (HR.out.later hx).cells.2.2.1, (HR.out.later hx).cells.2.2.2⟩)
  clear HX HR c2 c3 c4 c0 c5 HU
  go_region_held3 (fun w' => w'.cell? ⟨b, 1, none⟩ = some (.int .i64 x.a) ∧ w'.cell? ⟨R, 0, none⟩ = some (.int .i64 0) ∧ w'.cell? ⟨R, 1, none⟩ = some (.int .i64 0) ∧ w'.cell? ⟨R, 2, none⟩ = some (.int .i64 0) ∧ w'.cell? ⟨R, 3, none⟩ = some (.int .i64 0)) (first | assumption | exact ⟨by assumption, by assumption, by assumption, by assumption, by assumption⟩ | go_keep) (first | (go_at_call 13; refine (root_nil _).mono ?_; rintro e w5 ⟨rfl, e2⟩; rw [e2]; clear e2) | (go_at_call 14; refine (windows_nil _).mono ?_; rintro e w5 ⟨rfl, e2⟩; rw [e2]; clear e2) | (go_at_call 23; refine (kind_nil _ _).mono ?_; rintro e w5 ⟨rfl, e2⟩; rw [e2]; clear e2) | (go_at_call 26; refine (parent_nil _ _).mono ?_; rintro e w5 ⟨rfl, e2⟩; rw [e2]; clear e2) | (go_at_call 27; refine (sibling_nil _ _).mono ?_; rintro e w5 ⟨rfl, e2⟩; rw [e2]; clear e2) | (go_at_call 7; refine (live_any _).mono ?_; rintro e w11 ⟨rfl, hb11⟩; have HB11 := hidden ((Below.refl w4.heap.size w4).drew.trans hb11); obtain ⟨j1, j2, j3, j4, j5⟩ := HKP.out w11 HB11.out; clear hb11) | fail)
  all_goals (try go_wp2)
  go_ret
  exact ⟨rfl, by rw [HBB.out]; exact HB.out.trans (HB11.out.mono (Nat.le_trans (Nat.le_of_eq HBB.out.symm) HB.out.size))⟩
end Go.Proofs.Ytoijkhcmkkghpab
