/- Layer 17, the program: states that are kept; NewUndo, Push, Pop. -/
import Derived.Test.YtnjeobijbbjlaaaZ17i
namespace Go.Proofs.Ytnjeobijbbjlaaa
open Go.RowKit
set_option maxHeartbeats 1000000
set_option maxRecDepth 100000
set_option linter.unusedVariables false

/-- an Undo in memory of a call's own -/
structure UAt (B : Nat) (w : World) (m : Nat) (v : Value) (most : Int) (L : List Sv) : Prop where
  base : B ≤ m
  box : w.heap[m]? = some (.cells #[.int .i64 most, v] 59 (0, 0))
  row : w.ownsRow B 38 4 v L.length (svV L)
  ok : ∀ x ∈ L, x.ok
def TU (m : Nat) (v : Value) (k : Nat) : Prop := k = m ∨ v.ownBlock = some k
theorem UAt.lt {B : Nat} {w : World} {m : Nat} {v : Value} {most : Int} {L : List Sv} (h : UAt B w m v most L) : m < w.heap.size := (Array.getElem?_eq_some_iff.1 h.box).1
theorem UAt.ne {B : Nat} {w : World} {m : Nat} {v : Value} {most : Int} {L : List Sv} (h : UAt B w m v most L) : v.ownBlock ≠ some m := own_neE h.row h.box (by decide)
theorem UAt.cells {B : Nat} {w : World} {m : Nat} {v : Value} {most : Int} {L : List Sv} (h : UAt B w m v most L) : w.cell? ⟨m, 0, none⟩ = some (.int .i64 most) ∧ w.cell? ⟨m, 1, none⟩ = some v ∧ ∀ j, w.frozen? ⟨m, j, none⟩ = false := by
  have hb := h.box
  refine ⟨?_, ?_, fun j => ?_⟩
  · simp [World.cell?, hb]
  · simp [World.cell?, hb]
  · simp [World.frozen?, hb]
theorem UAt.later {B : Nat} {w w' : World} {m : Nat} {v : Value} {most : Int} {L : List Sv} (h : UAt B w m v most L) (hb : Below w.heap.size w w') : UAt B w' m v most L :=
  ⟨h.base, (hb.block m h.lt).trans h.box, own_later h.row hb, h.ok⟩
theorem UAt.put {B : Nat} {w w' : World} {m : Nat} {v v' : Value} {most : Int} {L L' : List Sv} (h : UAt B w m v most L) (f : Fm w w' (fun k => v.ownBlock = some k) (fun k => v'.ownBlock = some k)) (ho : w'.ownsRow B 38 4 v' L'.length (svV L')) (hok : ∀ x ∈ L', x.ok) :
    UAt B (w'.setCell ⟨m, 1, none⟩ v') m v' most L' ∧ Fm w (w'.setCell ⟨m, 1, none⟩ v') (TU m v) (TU m v') := by
  have hb : w'.heap[m]? = some (.cells #[.int .i64 most, v] 59 (0, 0)) := by
    rw [f.block m h.lt h.ne]; exact h.box
  refine ⟨⟨h.base, ?_, ownsRow_setCell_other ho (by simpa using own_neE ho hb (by decide)) _, hok⟩, ?_⟩
  · rw [bkset hb]; simp
  · refine (f.to (U := TU m v) (U' := TU m v') (fun k e => .inr e) (fun k e => ?_)).set m 1 _ (.inl rfl)
    rcases e with e | e
    · exact .inl (.inl e)
    · exact .inr e
theorem fm_of_grown {w w' : World} {v : Value} (h : w.grownBy w' v.ownBlock) : Fm w w' (fun k => v.ownBlock = some k) (fun k => v.ownBlock = some k) := fm_grown h (fun k e => .inl e)
theorem new_good (most : Int) (w : World) (h0 : 0 ≤ most) (h1 : most ≤ 64) :
    Calls Try.prog 16 #[.int .i64 most] w fun e w' => e = .returned (.tuple #[.pointer (some ⟨w.heap.size, 0, none⟩), .int .i64 0]) ∧ Hid (UAt w.heap.size w' w.heap.size (.slice none 0 0) most []) ∧ Hid (Below w.heap.size w w') := by
  have n0 : ¬ most < 0 := by omega
  have n1 : ¬ most > 64 := by omega
  have HF : Hid (UAt w.heap.size (w.alloc (.cells #[.int .i64 most, .slice none 0 0] 59)) w.heap.size (.slice none 0 0) most []) := hidden ⟨Nat.le_refl _, heap_alloc_new w _, World.ownsRow_nil _ _ _ _, fun x hx => by cases hx⟩
  have HB := hidden (show Below w.heap.size w (w.alloc (.cells #[.int .i64 most, .slice none 0 0] 59)) from (Below.refl _ _).alloc (Nat.le_refl _) _)
  go_enter Try.func16, Try.ntmps16
  go_wp2
  go_ret2
  exact ⟨rfl, HF, HB⟩
/-- a state in a block of its own -/
theorem st_box (w : World) (x : Sv) : (w.alloc (.cells #[x.r, .int .u32 x.h, x.b, x.s] 38)).cell? ⟨w.heap.size, 0, none⟩ = some x.r ∧ (w.alloc (.cells #[x.r, .int .u32 x.h, x.b, x.s] 38)).cell? ⟨w.heap.size, 1, none⟩ = some (.int .u32 x.h) ∧ (w.alloc (.cells #[x.r, .int .u32 x.h, x.b, x.s] 38)).cell? ⟨w.heap.size, 2, none⟩ = some x.b ∧ (w.alloc (.cells #[x.r, .int .u32 x.h, x.b, x.s] 38)).cell? ⟨w.heap.size, 3, none⟩ = some x.s := by
  have hh := heap_alloc_new w (.cells #[x.r, .int .u32 x.h, x.b, x.s] 38)
  refine ⟨?_, ?_, ?_, ?_⟩ <;> simp only [World.cell?, hh] <;> rfl
theorem step_appS {w : World} {ops : Array Oper} {o : Oper} {a : Act} {K : Act → World → Prop} {Q : Exit → Act → World → Prop} {E : Prop} (hgd : o.guard = none) (s x : Operand)
    (ho : o.op = .call { callee := .builtin .append, args := #[s, x], argTypes := #[44, 44] })
    (base : Nat) (v : Value) (L : List Sv) (hs : a.eval s = v) (hown : w.ownsRow base 38 4 v L.length (svV L))
    (ad : Addr) (c : Nat) (d : Sv) (hd : d.ok) (hx : a.eval x = .slice (some ad) 1 c) (hnews : ∀ j u, (svC d)[j]? = some u → w.cell? (ad.add j) = some u)
    (hn : L.length ≤ 1000) (hbase : base ≤ w.heap.size)
    (h : ∀ a' c' w', w'.ownsRow base 38 4 (.slice a' (L.length + 1) c') (L.length + 1) (svV (L ++ [d])) → Hid (Fm w w' (fun k => v.ownBlock = some k) (fun k => (Value.slice a' (L.length + 1) c').ownBlock = some k)) → K (a.put o.dst (.slice a' (L.length + 1) c')) w') :
    if Region.wanted o (yielded ops a.tmps) = true then Oper.wp Try.prog o a w K Q else E := by
  have hw : Region.wanted o (yielded ops a.tmps) = true := by simp [Region.wanted, hgd]
  rw [if_pos hw]
  obtain ⟨i0, hi, hz0, hz1, hz2⟩ := st_parts
  have h1 : ∀ u ∈ svC d, u.oneCell' = true := by
    have := svV_one (L := [d]) (fun x hx => by simp at hx; rw [hx]; exact hd)
    simpa [svV] using this
  obtain ⟨v', w', hr, h2, h3, h4⟩ := run_append_at (P := Try.prog) (w := w) base 44 o.type 38 i0 _ 4 80 Try.underlying44 hi hz0 hz1 hz2 rfl (by decide) v L.length (svV L) hown ad 1 c (svC d) rfl hnews h1 (by unfold maxLen; omega) (by omega) hbase (by omega)
  have e : svV L ++ svC d = svV (L ++ [d]) := by rw [svV_app]; simp [svV]
  rw [e] at h2
  obtain ⟨a', c', rfl⟩ := own_slice h2
  have hK := h a' c' w' h2 (fm_grown h3 h4)
  unfold Oper.wp
  simp [execOp, ho, resolve, invoke, builtin, hs, hx, hr, Result.andThen]
  exact hK
end Go.Proofs.Ytnjeobijbbjlaaa
