/- Layer 15: the walk of ShelfNil; an act by value, opened. -/
import Derived.Test.YtolfhobdckjnhaaU15c
import Derived.Deep.Slices
import Derived.Lib.SmallJoins
import Derived.ChangeSame
namespace Go.Proofs.Ytolfhobdckjnhaa
open Go.RowKit Go.ChangeShapes Go.WideShapes
set_option maxHeartbeats 1000000
set_option maxRecDepth 100000
set_option linter.unusedVariables false

theorem list9s {α : Type} {l : List α} (h : l.length = 9) : ∃ c0 c1 c2 c3 c4 c5 c6 c7 c8, l = [c0, c1, c2, c3, c4, c5, c6, c7, c8] := by
  match l, h with
  | [c0, c1, c2, c3, c4, c5, c6, c7, c8], _ => exact ⟨c0, c1, c2, c3, c4, c5, c6, c7, c8, rfl⟩
/-- an act -/
structure Ac where
  k : Int
  nm : ByteArray
  ba : Option Addr
  bn : Nat
  bc : Nat
  la : Option Addr
  ln : Nat
  lc : Nat
  n : Int
  a : Int
  md : Int
  wide : Bool
  near : Bool
def Ac.cs (x : Ac) : Array Value := #[.int .i64 x.k, .string x.nm, .slice x.ba x.bn x.bc, .slice x.la x.ln x.lc, .int .i64 x.n, .int .i64 x.a, .int .i64 x.md, .bool x.wide, .bool x.near]
theorem open_sl {H : Type} {enc : TypeId × Value → H} {W : World} {fuel : Nat} {t e : TypeId} (ht : Try.prog.underlying t = some (.slice e)) {v : Value} {x : DataW H × List MemPlace} {sp : Nat → Bool} (h : DataW.trod enc Try.prog W 0 sp true fuel t [v] = some x) : ∃ a n c, v = .slice a n c := by
  rcases Go.Deep.open_slice ht h with ⟨hcs, _⟩ | ⟨y, l, c, m, n, D, Pl, hcs, _⟩
  · simp only [List.cons.injEq, and_true] at hcs
    exact ⟨_, _, _, hcs⟩
  · simp only [List.cons.injEq, and_true] at hcs
    exact ⟨_, _, _, hcs⟩
theorem open_ac {H : Type} {enc : TypeId × Value → H} {W : World} {r : Reach} {b0 : Nat} {v : Value} {d : DataW H} {p : List MemPlace}
    (hv : Value.okWide Try.prog W r b0 25 v) (h : DataW.Trod enc Try.prog W 0 (fun _ => true) true 25 v d p) : ∃ x : Ac, v = .agg x.cs ∧ True := by
  obtain ⟨cs, rfl, hsz⟩ := okWide_struct Try.underlying25 hv
  have hsz9 : cs.toList.length = 9 := by
    have : Try.prog.cellsOf 25 = 9 := by kernel_rfl
    rw [this] at hsz
    simpa using hsz
  obtain ⟨c0, c1, c2, c3, c4, c5, c6, c7, c8, hcs⟩ := list9s hsz9
  obtain ⟨fuel, hf⟩ := h
  obtain ⟨xs, n, _, hx, _, hlen, hfld⟩ := DataW.trod_struct Try.underlying25 hf
  obtain ⟨y0, y1, y2, y3, y4, y5, y6, y7, y8, rfl⟩ := list9s (l := xs) hlen
  have e1 : Try.prog.cellsOf 9 = 1 := by kernel_rfl
  have e2 : Try.prog.cellsOf 3 = 1 := by kernel_rfl
  have e3 : Try.prog.cellsOf 4 = 1 := by kernel_rfl
  have e4 : Try.prog.cellsOf 22 = 1 := by kernel_rfl
  have e5 : Try.prog.cellsOf 23 = 1 := by kernel_rfl
  have hcl : (Value.agg cs).cells.toList = [c0, c1, c2, c3, c4, c5, c6, c7, c8] := by simpa [Value.cells] using hcs
  rw [hcl] at hfld
  have t0 := hfld 0 _ rfl
  have t1 := hfld 1 _ rfl
  have t2 := hfld 2 _ rfl
  have t3 := hfld 3 _ rfl
  have t4 := hfld 4 _ rfl
  have t5 := hfld 5 _ rfl
  have t6 := hfld 6 _ rfl
  have t7 := hfld 7 _ rfl
  have t8 := hfld 8 _ rfl
  simp [e1, e2, e3, e4, e5] at t0 t1 t2 t3 t4 t5 t6 t7 t8
  obtain ⟨x0, q0, _, _⟩ := DataW.trod_int Try.underlying3 t0
  obtain ⟨x1, q1, _, _⟩ := DataW.trod_string Try.underlying9 t1
  obtain ⟨a2, n2, k2, q2⟩ := open_sl Try.underlying22 t2
  obtain ⟨a3, n3, k3, q3⟩ := open_sl Try.underlying23 t3
  obtain ⟨x4, q4, _, _⟩ := DataW.trod_int Try.underlying3 t4
  obtain ⟨x5, q5, _, _⟩ := DataW.trod_int Try.underlying3 t5
  obtain ⟨x6, q6, _, _⟩ := DataW.trod_int Try.underlying3 t6
  obtain ⟨x7, q7, _⟩ := DataW.trod_bool Try.underlying4 t7
  obtain ⟨x8, q8, _⟩ := DataW.trod_bool Try.underlying4 t8
  simp at q0 q1 q4 q5 q6 q7 q8
  subst q0 q1 q2 q3 q4 q5 q6 q7 q8
  refine ⟨⟨x0, x1, a2, n2, k2, a3, n3, k3, x4, x5, x6, x7, x8⟩, ?_, trivial⟩
  have : cs = Ac.cs ⟨x0, x1, a2, n2, k2, a3, n3, k3, x4, x5, x6, x7, x8⟩ := by
    obtain ⟨l⟩ := cs
    simp at hcs
    simp [hcs, Ac.cs]
  rw [this]
def AcAt (w : World) (b : Nat) (x : Ac) : Prop := w.heap[b]? = some (.cells x.cs 25 (0, 0))
theorem AcAt.later {w w' : World} {b : Nat} {x : Ac} (h : AcAt w b x) (hb : Below w.heap.size w w') : AcAt w' b x := by
  unfold AcAt at h ⊢
  rw [hb.block b (Array.getElem?_eq_some_iff.1 h).1]; exact h
theorem AcAt.cells {w : World} {b : Nat} {x : Ac} (h : AcAt w b x) : w.cell? ⟨b, 1, none⟩ = some (.string x.nm) ∧ w.cell? ⟨b, 2, none⟩ = some (.slice x.ba x.bn x.bc) ∧ w.cell? ⟨b, 3, none⟩ = some (.slice x.la x.ln x.lc) ∧ w.cell? ⟨b, 4, none⟩ = some (.int .i64 x.n) ∧ w.cell? ⟨b, 5, none⟩ = some (.int .i64 x.a) ∧ w.cell? ⟨b, 6, none⟩ = some (.int .i64 x.md) ∧ w.cell? ⟨b, 7, none⟩ = some (.bool x.wide) := by
  unfold AcAt at h
  exact ⟨by simp [World.cell?, h, Ac.cs], by simp [World.cell?, h, Ac.cs], by simp [World.cell?, h, Ac.cs], by simp [World.cell?, h, Ac.cs], by simp [World.cell?, h, Ac.cs], by simp [World.cell?, h, Ac.cs], by simp [World.cell?, h, Ac.cs]⟩
set_option maxHeartbeats 4000000 in
theorem shelfNil_walk (x : Ac) (w : World) (_ok : True) : Calls Try.prog 3 #[.agg x.cs] w fun e w' => e = .returned (.bool true) ∧ Below w.heap.size w w' := by
  have HX : Hid (AcAt (w.alloc (.cells x.cs 25)) w.heap.size x) := hidden (heap_alloc_new w _)
  have HB : Hid (Below w.heap.size w (w.alloc (.cells x.cs 25))) := hidden ((Below.refl _ _).alloc (Nat.le_refl _) _)
  have HU := hidden (fun w1 => num15 8 w1 (by omega) (by omega))
  unfold Ac.cs at *
  go_enter Try.func3, Try.ntmps3
  go_upto_region 2 with fail
  generalize w.alloc (.cells #[.int .i64 x.k, .string x.nm, .slice x.ba x.bn x.bc, .slice x.la x.ln x.lc, .int .i64 x.n, .int .i64 x.a, .int .i64 x.md, .bool x.wide, .bool x.near] 25) = w1 at *
  obtain ⟨b, hb⟩ : ∃ b, w.heap.size = b := ⟨_, rfl⟩
  have HBB := hidden hb
  rw [hb] at HX HB ⊢
  clear hb
  obtain ⟨c1, c2, c3, c4, c5, c6, c7⟩ := HX.out.cells
  go_upto_region 7 with (first | (go_at_call 9; refine (open_nil _ _ _ _).mono ?_; rintro e w2 ⟨rfl, e2⟩; rw [e2]; clear e2) | (go_at_call 10; refine (buffer_nil _ _ _ _ _ _).mono ?_; rintro e w2 ⟨rfl, e2⟩; rw [e2]; clear e2) | (go_at_call 11; refine (read_nil _ _).mono ?_; rintro e w2 ⟨rfl, e2⟩; rw [e2]; clear e2) | (go_at_call 12; refine (line_nil _ _ _).mono ?_; rintro e w2 ⟨rfl, e2⟩; rw [e2]; clear e2) | (go_at_call 13; refine (tell_nil _ _).mono ?_; rintro e w2 ⟨rfl, e2⟩; rw [e2]; clear e2) | fail)
  go_upto_region 8 with (first | (go_at_call 14; refine (close_nil _ _).mono ?_; rintro e w3 ⟨rfl, hb3⟩; replace HX := hidden (HX.out.later hb3); replace HB := hidden (HB.out.trans (hb3.mono (Nat.le_trans (Nat.le_of_eq HBB.out.symm) HB.out.size))); clear hb3) | fail)
  clear c1 c2 c3 c4 c5 c6 c7
  obtain ⟨c1, c2, c3, c4, c5, c6, c7⟩ := HX.out.cells
  clear HX
  go_upto_region 11 with (first | (go_at_call 15; refine (get_nil _ _).mono ?_; rintro e w4 ⟨rfl, e2⟩; rw [e2]; clear e2) | (go_at_call 16; refine (total_nil _).mono ?_; rintro e w4 ⟨rfl, e2⟩; rw [e2]; clear e2) | (go_at_call 17; refine (names_nil _).mono ?_; rintro e w4 ⟨rfl, e2⟩; rw [e2]; clear e2) | (go_at_call 18; refine (streams_nil _).mono ?_; rintro e w4 ⟨rfl, e2⟩; rw [e2]; clear e2) | (go_at_call 19; refine (delete_nil _ _).mono ?_; rintro e w4 ⟨rfl, e2⟩; rw [e2]; clear e2) | fail)
  go_wp2_with (first | (go_at_call 20; refine (HU.out _).mono ?_; rintro e w5 ⟨rfl, e2⟩; rw [e2]; clear e2) | (go_at_call 21; refine (put_nil _ _ _ _ _).mono ?_; rintro e w4 ⟨rfl, e2⟩; rw [e2]; clear e2) | (go_at_call 22; refine (write_nil _ _ _ _ _).mono ?_; rintro e w4 ⟨rfl, e2⟩; rw [e2]; clear e2) | (go_at_call 23; refine (seek_nil _ _ _ _).mono ?_; rintro e w4 ⟨rfl, e2⟩; rw [e2]; clear e2) | (go_at_call 24; refine (live_any _).mono ?_; rintro e w11 ⟨rfl, hb11⟩; have HB11 := hidden hb11; clear hb11) | fail)
  go_ret
  exact ⟨rfl, by rw [HBB.out]; exact HB.out.trans (HB11.out.mono (Nat.le_trans (Nat.le_of_eq HBB.out.symm) HB.out.size))⟩
end Go.Proofs.Ytolfhobdckjnhaa
