/- Layer 14, the program: Rect. -/
import Derived.Test.YtilfgbcbodjegaaP14m
namespace Go.Proofs.Ytilfgbcbodjegaa
open Go.RowKit
set_option maxHeartbeats 1000000
set_option maxRecDepth 100000
set_option linter.unusedVariables false

theorem place_any {B m : Nat} {v : Value} {s : Ps} (ho : OkP s) (hs : scrB s.w s.h = true) (g c : Nat) (hv : v = .slice (some ⟨g, 0, none⟩) s.L.length c) : ∀ (k : Nat) (x : Int) (i : Nat) (hi : i < s.L.length), s.L[i].n = x → Upk s k x → ∀ w, PAt B w m v s →
    Calls Try.prog 37 #[.pointer (some ⟨m, 0, none⟩), .pointer (some ⟨g, i * 8, none⟩)] w fun e w' => e = .returned (r4A (rctF s k x)) ∧ Below w.heap.size w w'
  | 0, x, i, hi, hx, hu, w, h => by
    have hp : s.L[i].p = 0 := by have e := ofW_at ho.so hi hx; have hu' : (ofW s.L x).p = 0 := hu; rw [e] at hu'; exact hu'
    exact place_root h i hi g c hv hp
  | k + 1, x, i, hi, hx, hu, w, h => by
    have e := ofW_at ho.so hi hx
    by_cases hp : s.L[i].p = 0
    · have er : rctF s (k + 1) x = ⟨0, 0, s.w, s.h⟩ := by unfold rctF; rw [if_pos (by rw [e]; exact hp)]
      rw [er]
      exact place_root h i hi g c hv hp
    · rcases hu with hu | ⟨hh, hw, hk, hu⟩
      · rw [e] at hu; exact absurd hu hp
      · rw [e] at hh hw hk hu
        obtain ⟨j, hj, hjx⟩ := has_ix hh
        have ej := ofW_at ho.so hj hjx
        rw [ej] at hw hk
        have hr := rct_ok hs k s.L[i].p hu
        refine (place_kid h ho i hi g c hv j hj hp hjx hw (by rw [hx]; exact hk) (rctF s k s.L[i].p) hr (fun w1 hb => place_any ho hs g c hv k s.L[i].p j hj hjx hu w1 (h.later hb)) _ rfl (rctF s (k + 1) x) ?_)
        conv => lhs; unfold rctF
        rw [if_neg (by rw [e]; exact hp), e, ej, hx]
set_option maxHeartbeats 4000000 in
theorem rect_any {B m : Nat} {v : Value} {s : Ps} {w : World} (h : PAt B w m v s) (ho : OkP s) (hs : scrB s.w s.h = true) (k : Nat) (x : Int) (hx : hasW s.L x) (hu : Upk s k x) :
    Calls Try.prog 14 #[.pointer (some ⟨m, 0, none⟩), .int .i64 x] w fun e w' => e = .returned (.tuple #[r4A (rctF s k x), .bool true]) ∧ Below w.heap.size w w' := by
  obtain ⟨i, hi, hix⟩ := has_ix hx
  obtain ⟨g, c, hv, _⟩ := wrow_pos h.row (by omega)
  have hb : Below w.heap.size w (w.alloc (.cells #[.int .i64 0, .int .i64 0, .int .i64 0, .int .i64 0] 36)) := (Below.refl _ _).alloc (Nat.le_refl _) _
  have HA : Hid (∀ w1, KpB w w1 w.heap.size → Calls Try.prog 36 #[.pointer (some ⟨m, 0, none⟩), .int .i64 x] w1 fun e w' => e = .returned (.pointer (some ⟨g, i * 8, none⟩)) ∧ Hid (KpB w w' w.heap.size)) := hidden (fun w1 h1 => (at_some (h.later h1.bel) ho.so (by have := ho.few; omega) i hi g c hv x hix).mono (fun e w' hh => ⟨hh.1, hidden (h1.later hh.2)⟩))
  have HP : Hid (∀ w1, KpB w w1 w.heap.size → Calls Try.prog 37 #[.pointer (some ⟨m, 0, none⟩), .pointer (some ⟨g, i * 8, none⟩)] w1 fun e w' => e = .returned (r4A (rctF s k x)) ∧ Hid (KpB w w' w.heap.size)) := hidden (fun w1 h1 => (place_any ho hs g c hv k x i hi hix hu w1 (h.later h1.bel)).mono (fun e w' hh => ⟨hh.1, hidden (h1.later hh.2)⟩))
  have HK : Hid (KpB w (w.alloc (.cells #[.int .i64 0, .int .i64 0, .int .i64 0, .int .i64 0] 36)) w.heap.size) := hidden ⟨hb, heap_alloc_new w _⟩
  unfold r4A at *
  generalize rctF s k x = R at *
  clear h ho hs hx hu hix hv hb hi
  go_enter Try.func14, Try.ntmps14
  go_upto_region 1 with fail
  generalize w.alloc (.cells #[.int .i64 0, .int .i64 0, .int .i64 0, .int .i64 0] 36) = W at *
  obtain ⟨G, hG⟩ : ∃ G, w.heap.size = G := ⟨_, rfl⟩
  have HG : Hid (w.heap.size ≤ G) := hidden (by omega)
  rw [hG] at HK HA HP
  rw [hG]
  clear hG
  go_wp2_with (first | (go_at_call 36; refine (HA.out _ HK.out).mono ?_; rintro e w2 ⟨rfl, HK2⟩) | (go_at_call 37; refine (HP.out _ HK2.out).mono ?_; rintro e w3 ⟨rfl, HK3⟩; obtain ⟨y0, y1, y2, y3, x0, x1, x2, x3⟩ := HK3.out.cells) | fail)
  exact bodyPost_ret (v := .tuple #[.agg #[.int .i64 R.x, .int .i64 R.y, .int .i64 R.w, .int .i64 R.h], .bool true]) (by simp [results, Try.results14, go_sem, y0, y1, y2, y3]) rfl ⟨rfl, below_set (below_set (below_set (below_set HK3.out.bel G 0 _ HG.out) G 1 _ HG.out) G 2 _ HG.out) G 3 _ HG.out⟩
theorem rect_none {B m : Nat} {v : Value} {s : Ps} {w : World} (h : PAt B w m v s) (ho : OkP s) (x : Int) (hx : ∀ d ∈ s.L, d.n ≠ x) :
    Calls Try.prog 14 #[.pointer (some ⟨m, 0, none⟩), .int .i64 x] w fun e w' => e = .returned (.tuple #[.agg #[.int .i64 0, .int .i64 0, .int .i64 0, .int .i64 0], .bool false]) ∧ Below w.heap.size w w' := by
  have HA : Hid (∀ w1, KpB w w1 w.heap.size → Calls Try.prog 36 #[.pointer (some ⟨m, 0, none⟩), .int .i64 x] w1 fun e w' => e = .returned (.pointer none) ∧ Hid (KpB w w' w.heap.size)) := hidden (fun w1 h1 => (at_none (h.later h1.bel) ho.so (by have := ho.few; omega) x hx).mono (fun e w' hh => ⟨hh.1, hidden (h1.later hh.2)⟩))
  have HK : Hid (KpB w (w.alloc (.cells #[.int .i64 0, .int .i64 0, .int .i64 0, .int .i64 0] 36)) w.heap.size) := hidden ⟨(Below.refl _ _).alloc (Nat.le_refl _) _, heap_alloc_new w _⟩
  clear h ho hx
  go_enter Try.func14, Try.ntmps14
  go_upto_region 1 with fail
  generalize w.alloc (.cells #[.int .i64 0, .int .i64 0, .int .i64 0, .int .i64 0] 36) = W at *
  obtain ⟨G, hG⟩ : ∃ G, w.heap.size = G := ⟨_, rfl⟩
  have HG : Hid (w.heap.size ≤ G) := hidden (by omega)
  rw [hG] at HK HA
  rw [hG]
  clear hG
  go_wp2_with (first | (go_at_call 36; refine (HA.out _ HK.out).mono ?_; rintro e w2 ⟨rfl, HK2⟩; obtain ⟨y0, y1, y2, y3, x0, x1, x2, x3⟩ := HK2.out.cells) | fail)
  exact bodyPost_ret (v := .tuple #[.agg #[.int .i64 0, .int .i64 0, .int .i64 0, .int .i64 0], .bool false]) (by simp [results, Try.results14, go_sem, y0, y1, y2, y3]) rfl ⟨rfl, below_set (below_set (below_set (below_set HK2.out.bel G 0 _ HG.out) G 1 _ HG.out) G 2 _ HG.out) G 3 _ HG.out⟩
end Go.Proofs.Ytilfgbcbodjegaa
