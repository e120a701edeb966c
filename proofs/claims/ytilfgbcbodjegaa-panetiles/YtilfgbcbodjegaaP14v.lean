/- Layer 14, the program: Close. -/
import Derived.Test.YtilfgbcbodjegaaP14u
namespace Go.Proofs.Ytilfgbcbodjegaa
open Go.RowKit
set_option maxHeartbeats 1000000
set_option maxRecDepth 100000
set_option linter.unusedVariables false

def sortI (zs : List Int) : List Int := zs.mergeSort fun x y => decide (x ≤ y)
theorem sortI_len (zs : List Int) : (sortI zs).length = zs.length := List.length_mergeSort zs
theorem sortI_up (zs : List Int) : (sortI zs).Pairwise (· ≤ ·) := by
  have := List.pairwise_mergeSort (le := fun x y : Int => decide (x ≤ y)) (fun a b c h1 h2 => by simp at *; omega) (fun a b => by simp; omega) zs
  exact this.imp (fun h => by simpa using h)
/-- what Close leaves -/
def ClR (B m : Nat) (v : Value) (w : World) (zs : List Int) (s1 : Ps) (gg cc : Nat) (w' : World) : Prop := w'.ownsRow w.heap.size 3 1 (.slice (some ⟨gg, 0, none⟩) zs.length cc) zs.length (intsV (sortI zs)) ∧ ∃ v', PAt B w' m v' (dropS s1 (sortI zs)) ∧ Fm w w' (TP m v) (TP m v')
theorem close_tail {B m g c gg cc : Nat} {s s1 : Ps} {w w1 : World} {zs : List Int} (hm : m < w.heap.size) (hg : g < w.heap.size) (hl : s1.L.length = s.L.length) (hB : B ≤ w.heap.size) (h : PAt B w1 m (.slice (some ⟨g, 0, none⟩) s.L.length c) s1) (hf : Fm w w1 (TP m (.slice (some ⟨g, 0, none⟩) s.L.length c)) (TP m (.slice (some ⟨g, 0, none⟩) s.L.length c))) (hr : w1.ownsRow w.heap.size 3 1 (.slice (some ⟨gg, 0, none⟩) zs.length cc) zs.length (intsV zs)) (hn : zs.length ≤ 1000) (hs : s.L.length ≤ 1000) :
    Calls Try.prog 43 #[.slice (some ⟨gg, 0, none⟩) zs.length cc] w1 fun e w2 => e = .returned (.tuple #[]) ∧ Hid (Calls Try.prog 44 #[.pointer (some ⟨m, 0, none⟩), .slice (some ⟨gg, 0, none⟩) zs.length cc] w2 fun e w3 => e = .returned (.tuple #[]) ∧ Hid (ClR B m (.slice (some ⟨g, 0, none⟩) s.L.length c) w zs s1 gg cc w3)) := by
  have hgg := (hr.lt gg rfl).1
  refine (sort_own hr hn).mono ?_
  rintro e w2 ⟨rfl, H1, H2⟩
  refine ⟨rfl, hidden ?_⟩
  have f2 : Fm w1 w2 (fun k => k = gg) (fun k => k = gg) := ⟨H2.out.os, H2.out.tape, H2.out.output, H2.out.size, fun k hk hne => H2.out.block k hk (fun e => hne (Option.some.inj e)), fun k hk => .inl hk⟩
  have h2 : PAt B w2 m (.slice (some ⟨g, 0, none⟩) s1.L.length c) s1 := by
    rw [hl]
    refine ⟨h.base, by rw [f2.block m h.lt (by omega)]; exact h.box, own_fm f2 h.row (fun k e => ?_)⟩
    have : g = k := Option.some.inj e
    omega
  have hr2 : w2.ownsRow 0 3 1 (.slice (some ⟨gg, 0, none⟩) zs.length cc) zs.length (intsV (sortI zs)) := own_base H1.out (Nat.zero_le _)
  have hsz : B ≤ w2.heap.size := Nat.le_trans hB (Nat.le_trans hf.size f2.size)
  refine (drop_any h2 hsz (by omega) gg zs.length cc (sortI zs) hr2 hn (sortI_up zs) (by omega) (by omega)).mono ?_
  rintro e w3 ⟨rfl, h3, f3⟩
  refine ⟨rfl, hidden ⟨own_fm f3 H1.out (fun k e => ?_), _, h3, ?_⟩⟩
  · have e1 : gg = k := Option.some.inj e
    rintro (q | q)
    · omega
    · have : g = k := Option.some.inj q
      omega
  · rw [hl] at f3
    have f12 : Fm w w2 (TP m (.slice (some ⟨g, 0, none⟩) s.L.length c)) (TP m (.slice (some ⟨g, 0, none⟩) s.L.length c)) := ⟨f2.os.trans hf.os, f2.tape.trans hf.tape, f2.output.trans hf.output, Nat.le_trans hf.size f2.size, fun k hk hne => (f2.block k (Nat.lt_of_lt_of_le hk hf.size) (by omega)).trans (hf.block k hk hne), fun k hk => .inl hk⟩
    exact f12.trans f3
/-- the numbers that go with a window -/
def goneL (s : Ps) (k : Nat) (x : Int) : List Int := numsF (fun y => upB s.L (k + 2) y x) s.L
theorem gone_pos {s : Ps} (ho : OkP s) {x : Int} (hx : hasW s.L x) (k : Nat) : 0 < (goneL s k x).length := by
  obtain ⟨i, hi, e⟩ := has_ix hx
  unfold goneL numsF
  rw [List.length_map]
  refine List.length_pos_of_mem (a := s.L[i]) (List.mem_filter.2 ⟨List.getElem_mem hi, ?_⟩)
  have := ho.pos _ (List.getElem_mem hi)
  rw [e] at this ⊢
  show upB s.L (k + 2) x x = true
  unfold upB
  rw [if_neg (by omega), if_pos rfl]
set_option maxHeartbeats 8000000 in
theorem close_root {B m : Nat} {v : Value} {s : Ps} {w : World} (h : PAt B w m v s) (ho : OkP s) (hB : B ≤ w.heap.size) (x : Int) (hx : hasW s.L x) (k : Nat) (he : ∀ d ∈ s.L, Ends s.L k d.p) (hp : (ofW s.L x).p = 0) :
    Calls Try.prog 23 #[.pointer (some ⟨m, 0, none⟩), .int .i64 x] w fun e w' => ∃ gg cc, e = .returned (.tuple #[.slice (some ⟨gg, 0, none⟩) (goneL s k x).length cc, .int .i64 0]) ∧ Hid (ClR B m v w (goneL s k x) { s with root := 0 } gg cc w') := by
  obtain ⟨i, hi, hix⟩ := has_ix hx
  obtain ⟨g, c, hv, hBg, hgw, hlc, hcm⟩ := wrow_pos h.row (by omega)
  subst hv
  have hfew := ho.few
  have HA := hidden (at_some h ho.so (by omega) i hi g c rfl x hix)
  have hml := h.lt
  have HW : Hid (∀ w1, Below w.heap.size w w1 → Calls Try.prog 42 #[.pointer (some ⟨m, 0, none⟩), .int .i64 x] w1 fun e w' => ∃ gg cc, e = .returned (.slice (some ⟨gg, 0, none⟩) (goneL s k x).length cc) ∧ Hid (w'.ownsRow w.heap.size 3 1 (.slice (some ⟨gg, 0, none⟩) (goneL s k x).length cc) (goneL s k x).length (intsV (goneL s k x))) ∧ Hid (Below w.heap.size w w')) := hidden (fun w1 hb => (withAll_any (h.later hb) ho (by omega) x k he).mono (by
    rintro e w' ⟨ao, n, cc, rfl, H1, hn, H2⟩
    have hln : (goneL s k x).length = n := by have := H1.out.1; simpa [intsV, goneL] using this
    subst hln
    have hpos := gone_pos ho hx k
    rcases H1.out.2 with ⟨q, q2⟩ | ⟨gg, cap, cur, q, _⟩
    · omega
    · simp only [Value.slice.injEq] at q
      obtain ⟨rfl, _, rfl⟩ := q
      exact ⟨gg, _, rfl, hidden (own_base H1.out hb.size), hidden (hb.trans (H2.out.mono hb.size))⟩))
  have hgl : (goneL s k x).length ≤ 1000 := by
    unfold goneL numsF
    rw [List.length_map]
    exact Nat.le_trans (List.length_filter_le _ _) (by omega)
  have HPA : Hid (∀ w1, Below w.heap.size w w1 → Calls Try.prog 21 #[.pointer (some ⟨m, 0, none⟩), .int .i64 x] w1 fun e w' => e = .returned (.int .i64 0) ∧ Hid (Below w1.heap.size w1 w')) := hidden (fun w1 hb => (parent_any (h.later hb) ho x).mono (fun e w' hh => ⟨by rw [hh.1, hp], hidden hh.2⟩))
  have HT : Hid (∀ w1 gg cc, Below w.heap.size w w1 → w1.ownsRow w.heap.size 3 1 (.slice (some ⟨gg, 0, none⟩) (goneL s k x).length cc) (goneL s k x).length (intsV (goneL s k x)) → _) := hidden (fun w1 gg cc hb hr => by
    have h1 := (h.later hb).set2 0
    have hr1 : (w1.setCell ⟨m, 2, none⟩ (.int .i64 0)).ownsRow w.heap.size 3 1 (.slice (some ⟨gg, 0, none⟩) (goneL s k x).length cc) (goneL s k x).length (intsV (goneL s k x)) := ownsRow_setCell_other hr (by have := (hr.lt gg rfl).1; intro e; have : gg = m := Option.some.inj e; omega) _
    exact close_tail (s := s) (s1 := { s with root := 0 }) (c := c) hml hgw rfl hB h1.1 ((Fm.same hb).trans h1.2) hr1 hgl (by omega))
  have HC : Hid (∀ w1, Below w.heap.size w w1 → (∃ u, w1.cell? ⟨m, 2, none⟩ = some u) ∧ w1.frozen? ⟨m, 2, none⟩ = false) := hidden (fun w1 hb => ⟨⟨_, (h.later hb).cells.2.2.1⟩, (h.later hb).cells.2.2.2.2.2 2⟩)
  generalize goneL s k x = Z at *
  clear h ho hx he hp hi hix
  go_enter Try.func23, Try.ntmps23
  go_wp2_with (first
    | (go_at_call 36; refine HA.out.mono ?_; rintro e w1 ⟨rfl, hb1⟩; have HB1 := hidden hb1; clear hb1)
    | (go_at_call 42; refine (HW.out _ HB1.out).mono ?_; rintro e w2 ⟨gg, cc, rfl, HR2, HB2⟩)
    | (go_at_call 21; refine (HPA.out _ HB2.out).mono ?_; rintro e w3 ⟨rfl, HB23⟩; have HB3 := hidden (HB2.out.trans (HB23.out.mono HB2.out.size)); have HR3 := hidden (own_later HR2.out HB23.out); obtain ⟨⟨u3, k1⟩, k2⟩ := HC.out _ HB3.out)
    | (go_at_call 43; refine (HT.out _ gg cc HB3.out HR3.out).mono ?_; rintro e w4 ⟨rfl, HD4⟩)
    | (go_at_call 44; refine HD4.out.mono ?_; rintro e w5 ⟨rfl, HE5⟩)
    | fail)
  go_ret2
  exact ⟨gg, cc, rfl, HE5⟩
end Go.Proofs.Ytilfgbcbodjegaa
