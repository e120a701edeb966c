/- Appending bytes that are read anywhere to an owned row; a copy of such bytes. -/
import Derived.Test.YtpkfmccnjandoaaC11l
import Derived.Deep.RegionLaw
namespace Go.Proofs.Ytpkfmccnjandoaa
open Go.RowKit
set_option maxHeartbeats 1000000
set_option maxRecDepth 100000
set_option linter.unusedVariables false
theorem app_reads (base g n c m c0 : Nat) (sa : Option Addr) (zs ds : List Int) (w : World) (hown : w.ownsRow base 5 1 (.slice (some ⟨g, 0, none⟩) n c) n (bytesV zs)) (hr : Reads w sa m c0 ds) (h63 : n + m ≤ 4294967296) (hbase : base ≤ w.heap.size) :
    ∃ g' c' w', (∀ ty, (Builtin.append_ #[22, 22] ty #[.slice (some ⟨g, 0, none⟩) n c, .slice sa m c0]).run Try.prog w = .ok (.slice (some ⟨g', 0, none⟩) (n + m) c') w') ∧ w'.ownsRow base 5 1 (.slice (some ⟨g', 0, none⟩) (n + m) c') (n + m) (bytesV (zs ++ ds)) ∧ Fm w w' (fun k => (Value.slice (some ⟨g, 0, none⟩) n c).ownBlock = some k) (fun k => (Value.slice (some ⟨g', 0, none⟩) (n + m) c').ownBlock = some k) := by
  obtain ⟨i0, hi, hz0, hz1, hz2⟩ := info_parts info8
  have hl := hr.1
  by_cases hm : m = 0
  · subst hm
    obtain rfl : ds = [] := List.eq_nil_of_length_eq_zero hl
    cases sa with
    | none =>
      have h0 : c0 = 0 := by
        rcases hr.2.2 with ⟨_, _, h⟩ | ⟨x, h, _⟩
        · exact h
        · cases h
      subst h0
      exact ⟨g, c, w, fun ty => run_append_owned_none (P := Try.prog) (w := w) base 22 ty 5 i0 1 Try.underlying22 hi _ n _ hown, by simpa using hown, Fm.same (Below.refl _ _)⟩
    | some x =>
      obtain ⟨cur, h1, h2, h3, h4, h5, h6, h7⟩ := own8_cur hown
      refine ⟨g, c, _, fun ty => run_append_room (P := Try.prog) w 22 ty 5 i0 Try.underlying22 hi g n c cur.toArray h2 x 0 c0 [] (by simp) (by simp) (by simp) (by omega) (by simp [hz1]; omega), ?_, ?_⟩
      · have hs := setRow_heap w g cur.toArray (cur.toArray.toList.take (n * i0.size) ++ [] ++ cur.toArray.toList.drop (n * i0.size + ([] : List Value).length)).toArray 5 (0, 0) h2
        refine own8_of (zs := zs ++ []) h1 hs (by omega) h4 (by simp [hz1]; omega) ?_ (by simp [h7])
        simp only [List.append_nil, Nat.add_zero, List.length_nil]
        simpa using h6
      · exact ⟨rfl, rfl, rfl, by simp [World.setRow], fun k _ hk => setRow_other w g k _ (fun e => hk (by rw [e]; rfl)), fun k hk => .inl hk⟩
  · obtain ⟨x, rfl⟩ : ∃ x, sa = some x := by
      rcases hr.2.2 with ⟨_, h, _⟩ | ⟨x, h, _⟩
      · omega
      · exact ⟨x, h⟩
    have key : ∀ ty, ∃ v' w', (Builtin.append_ #[22, 22] ty #[.slice (some ⟨g, 0, none⟩) n c, .slice (some x) m c0]).run Try.prog w = .ok v' w' ∧ w'.ownsRow base 5 1 v' (n + m) (bytesV zs ++ bytesV ds) ∧ w.grownBy w' (Value.slice (some ⟨g, 0, none⟩) n c).ownBlock ∧ (∀ k, v'.ownBlock = some k → (Value.slice (some ⟨g, 0, none⟩) n c).ownBlock = some k ∨ w.heap.size ≤ k) := fun ty => run_append_at (P := Try.prog) (w := w) base 22 ty 5 i0 (.int .u8 0) 1 1 Try.underlying22 hi hz0 hz1 hz2 rfl (by decide) _ n (bytesV zs) hown x m c0 (bytesV ds) (by simp [bytesV, hl]) hr.news (bytesV_one ds) (by unfold maxLen; omega) (by omega) hbase (by omega)
    obtain ⟨v', w', hr1, h2, h3, h4⟩ := key 22
    rw [bytesV_append] at h2
    obtain ⟨g', c', rfl, _, _⟩ := owned_shape h2 (by omega)
    exact ⟨g', c', w', fun ty => hr1, h2, fm_grown h3 h4⟩
theorem wpList_appR {w : World} {ops : Array Oper} {rest : List Oper} {o : Oper} {a : Act} {Q : Exit → Act → World → Prop} (hgd : o.guard = none) (s x : Operand)
    (ho : o.op = .call { callee := .builtin .append, args := #[s, x], argTypes := #[22, 22] })
    (base g n c m c0 : Nat) (sa : Option Addr) (zs ds : List Int) (hs : a.eval s = .slice (some ⟨g, 0, none⟩) n c) (hx : a.eval x = .slice sa m c0) (hown : w.ownsRow base 5 1 (.slice (some ⟨g, 0, none⟩) n c) n (bytesV zs)) (hr : Reads w sa m c0 ds) (h63 : n + m ≤ 4294967296) (hbase : base ≤ w.heap.size)
    (h : ∀ g' c' w', w'.ownsRow base 5 1 (.slice (some ⟨g', 0, none⟩) (n + m) c') (n + m) (bytesV (zs ++ ds)) → Hid (Fm w w' (fun k => (Value.slice (some ⟨g, 0, none⟩) n c).ownBlock = some k) (fun k => (Value.slice (some ⟨g', 0, none⟩) (n + m) c').ownBlock = some k)) → wpList Try.prog ops Q rest (a.put o.dst (.slice (some ⟨g', 0, none⟩) (n + m) c')) w') : wpList Try.prog ops Q (o :: rest) a w := by
  refine wpList_plain hgd fun K hK => ?_
  obtain ⟨g', c', w', hrun, h1, h2⟩ := app_reads base g n c m c0 sa zs ds w hown hr h63 hbase
  unfold Oper.wp
  simp [execOp, ho, resolve, invoke, builtin, hs, hx, hrun, Result.andThen]
  exact hK _ _ (h g' c' w' h1 h2)
theorem wpList_copyOf {w0 : World} {ops : Array Oper} {rest : List Oper} {o : Oper} {a : Act} {Q : Exit → Act → World → Prop} (hgd : o.guard = none) (s x : Operand)
    (ho : o.op = .call { callee := .builtin .append, args := #[s, x], argTypes := #[22, 22] })
    (m c0 : Nat) (sa : Option Addr) (ds : List Int) (hs : a.eval s = .slice (some ⟨w0.heap.size, 0, none⟩) 0 0) (hx : a.eval x = .slice sa m c0) (hr : Reads w0 sa m c0 ds) (h63 : m ≤ 4294967296)
    (h : ∀ g' c' w', w'.ownsRow w0.heap.size 5 1 (.slice (some ⟨g', 0, none⟩) m c') m (bytesV ds) → Below w0.heap.size w0 w' → wpList Try.prog ops Q rest (a.put o.dst (.slice (some ⟨g', 0, none⟩) m c')) w') : wpList Try.prog ops Q (o :: rest) a (w0.alloc (.cells #[] 5)) := by
  have hb : Below w0.heap.size w0 (w0.alloc (.cells #[] 5)) := (Below.refl _ _).alloc (Nat.le_refl _) _
  have hm := World.ownsRow_made (base := w0.heap.size) (e := 5) (size := 1) w0 #[] 0 (Nat.le_refl _) (Nat.zero_le _) (by simp)
  refine wpList_appR hgd s x ho w0.heap.size w0.heap.size 0 0 m c0 sa [] ds hs hx hm (hr.later hb) (by omega) hb.size ?_
  intro g' c' w' ho' f
  rw [Nat.zero_add, List.nil_append] at ho'
  rw [Nat.zero_add]
  exact h g' c' w' ho' (hb.trans (f.out.below hb.size (fun k e => by simp only [Value.ownBlock, Option.some.injEq] at e; omega)))
theorem step_copyOf {w : World} {ops : Array Oper} {o : Oper} {a : Act} {K : Act → World → Prop} {Q : Exit → Act → World → Prop} {E : Prop} (hgd : o.guard = none) (s x : Operand)
    (ho : o.op = .call { callee := .builtin .append, args := #[s, x], argTypes := #[22, 22] })
    (base g m c0 : Nat) (sa : Option Addr) (ds : List Int) (hs : a.eval s = .slice (some ⟨g, 0, none⟩) 0 0) (hx : a.eval x = .slice sa m c0) (hown : w.ownsRow base 5 1 (.slice (some ⟨g, 0, none⟩) 0 0) 0 (bytesV [])) (hr : Reads w sa m c0 ds) (h63 : m ≤ 4294967296) (hbase : base ≤ w.heap.size)
    (h : ∀ g' c' w', w'.ownsRow base 5 1 (.slice (some ⟨g', 0, none⟩) m c') m (bytesV ds) → Below base w w' → K (a.put o.dst (.slice (some ⟨g', 0, none⟩) m c')) w') :
    if Region.wanted o (yielded ops a.tmps) = true then Oper.wp Try.prog o a w K Q else E := by
  have hw : Region.wanted o (yielded ops a.tmps) = true := by simp [Region.wanted, hgd]
  rw [if_pos hw]
  obtain ⟨g', c', w', hrun, h1, h2⟩ := app_reads base g 0 0 m c0 sa [] ds w hown hr (by omega) hbase
  rw [Nat.zero_add, List.nil_append] at h1
  rw [Nat.zero_add] at hrun
  have hK := h g' c' w' h1 (h2.below hbase (fun k e => (hown.lt k e).1))
  unfold Oper.wp
  simp [execOp, ho, resolve, invoke, builtin, hs, hx, hrun, Result.andThen]
  exact hK
theorem made0 (w : World) : (w.alloc (.cells #[] 5)).ownsRow w.heap.size 5 1 (.slice (some ⟨w.heap.size, 0, none⟩) 0 0) 0 (bytesV []) :=
  World.ownsRow_made (base := w.heap.size) (e := 5) (size := 1) w #[] 0 (Nat.le_refl _) (Nat.zero_le _) (by simp)
end Go.Proofs.Ytpkfmccnjandoaa
