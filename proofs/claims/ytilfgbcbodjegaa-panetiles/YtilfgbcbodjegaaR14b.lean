/- Layer 14, the document: root, below, sibling, pair. -/
import Derived.Test.YtilfgbcbodjegaaR14a
import Derived.Test.YtilfgbcbodjegaaP14o
import Derived.Test.YtilfgbcbodjegaaP14g
namespace Go.Proofs.Ytilfgbcbodjegaa
open Go.RowKit
set_option maxHeartbeats 1000000
set_option maxRecDepth 100000
set_option linter.unusedVariables false

/-- the number of the first window that has nothing above, or 0 -/
def rootF : List Wd → Int
  | [] => 0
  | d :: r => if d.p = 0 then d.n else rootF r
theorem rootF_at (L : List Wd) (i : Nat) (hi : i < L.length) (hx : L[i].p = 0) (hno : ∀ j (hj : j < L.length), j < i → L[j].p ≠ 0) : rootF L = L[i].n := by
  induction L generalizing i with
  | nil => simp at hi
  | cons d r ih =>
    unfold rootF
    cases i with
    | zero =>
      have : d.p = 0 := hx
      rw [if_pos this]; rfl
    | succ i =>
      have h0 : d.p ≠ 0 := hno 0 (by simp) (by omega)
      have h1 := ih i (by simpa using hi) (by simpa using hx) (fun j hj hji => by have := hno (j + 1) (by simpa using hj) (by omega); simpa only [List.getElem_cons_succ] using this)
      rw [if_neg h0, h1]
      rfl
theorem rootF_no (L : List Wd) (h : ∀ j (hj : j < L.length), L[j].p ≠ 0) : rootF L = 0 := by
  induction L with
  | nil => rfl
  | cons d r ih =>
    have h0 : d.p ≠ 0 := h 0 (by simp)
    have h1 := ih (fun j hj => by have := h (j + 1) (by simpa using hj); simpa only [List.getElem_cons_succ] using this)
    unfold rootF
    rw [if_neg h0, h1]
set_option maxHeartbeats 4000000 in
theorem droot_any {B m : Nat} {v : Value} {s : Ps} {w : World} (h : QAt B w m v s) (hn : s.L.length ≤ 1000) :
    Calls Try.prog 46 #[.pointer (some ⟨m, 0, none⟩)] w fun e w' => e = .returned (.int .i64 (rootF s.L)) ∧ w' = w := by
  obtain ⟨d0, d1, d2, d3, d5⟩ := h.cells
  obtain ⟨va, vc, hv⟩ := own_slice h.row
  subst hv
  have HR := hidden h.row
  have HAT : Hid (∀ i (hi : i < s.L.length), s.L[i].p = 0 → (∀ j (hj : j < s.L.length), j < i → s.L[j].p ≠ 0) → rootF s.L = s.L[i].n) := hidden (fun i hi a b => rootF_at s.L i hi a b)
  have HNO : Hid ((∀ j (hj : j < s.L.length), s.L[j].p ≠ 0) → rootF s.L = 0) := hidden (rootF_no s.L)
  obtain ⟨IX, hIX⟩ : ∃ IX, rootF s.L = IX := ⟨_, rfl⟩
  rw [hIX] at HAT HNO ⊢
  clear hIX h
  obtain ⟨N, hN⟩ : ∃ N, s.L.length = N := ⟨_, rfl⟩
  have HN := hidden hN
  rw [hN] at d2 hn
  clear hN
  go_enter Try.func46, Try.ntmps46
  go_upto_region 2 with fail
  go_loopw [3] (fun i w' => ∃ j : Nat, i = .int .i64 j ∧ j ≤ N ∧ w' = w ∧ Hid (∀ k (hk : k < s.L.length), k < j → s.L[k].p ≠ 0)) (fun i _ => N - (intOf i).toNat)
  case atStart => exact ⟨0, rfl, Nat.zero_le _, rfl, hidden (fun k hk q => by omega)⟩
  case round =>
    obtain ⟨j, rfl, hj, rfl, HP⟩ := hrel
    by_cases hlt : j < N
    · have l1 : (j : Int) < N := by omega
      have l0 : (0 : Int) ≤ j := by omega
      have hjl : j < s.L.length := by rw [HN.out]; exact hlt
      obtain ⟨g, c, hv2, _⟩ := wrow_pos HR.out (by omega)
      simp only [Value.slice.injEq] at hv2
      obtain ⟨rfl, _, rfl⟩ := hv2
      obtain ⟨c0, _, c2, _⟩ := wrow_cells HR.out j hjl
      obtain ⟨y, hy⟩ : ∃ y, s.L[j].p = y := ⟨_, rfl⟩
      rw [hy] at c2
      obtain ⟨u, hu⟩ : ∃ u, s.L[j].n = u := ⟨_, rfl⟩
      rw [hu] at c0
      by_cases he : y = 0
      · have HE := hidden ((HAT.out j hjl (by rw [hy]; exact he) HP.out).trans hu)
        subst he
        clear HAT HNO HP hy hu
        go_wp2
        go_ret
        exact ⟨by rw [HE.out]; rfl, rfl⟩
      · have hne : (y == 0) = false := by simp [he]
        have HP2 : Hid (∀ k (hk : k < s.L.length), k < j + 1 → s.L[k].p ≠ 0) := hidden (fun k hk q => by
          by_cases e : k = j
          · subst e; rw [hy]; exact he
          · exact HP.out k hk (by omega))
        clear HAT HNO HP hy he hu
        go_wp2
        go_roundw
        case rel => exact ⟨j + 1, by first | rfl | go_num, by omega, by first | rfl | trivial, HP2⟩
        case measure => simp [intOf]; omega
    · obtain rfl : j = N := by omega
      have l1 : ¬ ((j : Int) < (j : Int)) := by omega
      have HE := hidden (HNO.out (fun k hk => HP.out k hk (by rw [← HN.out]; exact hk)))
      clear HAT HNO HP
      go_wp2
      go_ret
      exact ⟨by rw [HE.out]; rfl, rfl⟩
/-- a field of a window that is at hand as a value -/
theorem wfld1 (n k p a b m s y : Int) : ∀ w : World, (Instr.field 66 (.agg #[.int .i64 n, .int .i64 k, .int .i64 p, .int .i64 a, .int .i64 b, .int .i64 m, .int .u32 s, .int .i64 y]) 1).run Try.prog w = .ok (.int .i64 k) w := fun _ => by kernel_rfl
theorem wfld2 (n k p a b m s y : Int) : ∀ w : World, (Instr.field 66 (.agg #[.int .i64 n, .int .i64 k, .int .i64 p, .int .i64 a, .int .i64 b, .int .i64 m, .int .u32 s, .int .i64 y]) 2).run Try.prog w = .ok (.int .i64 p) w := fun _ => by kernel_rfl
theorem dpair_any {B m : Nat} {v : Value} {s : Ps} {w : World} (h : QAt B w m v s) (hn : s.L.length ≤ 1000) (x : Int) :
    Calls Try.prog 72 #[.pointer (some ⟨m, 0, none⟩), .int .i64 x] w fun e w' => e = .returned (.int .i64 (if hasB s.L x = false then 5 else if (ofW s.L x).k = 4 then 0 else 1)) ∧ Hid (Below w.heap.size w w') := by
  have HA := hidden (dat_any h hn x)
  have HO := hidden (dof_any h hn x)
  rcases ixW_of s.L x with ⟨i, hi, h1, h2, h3⟩ | ⟨h1, h2, h3⟩
  · have hb : hasB s.L x = true := hasB_iff.2 ⟨s.L[i], List.getElem_mem hi, h3⟩
    rw [h1] at HA
    have l2 : ¬ (i : Int) < 0 := by omega
    rw [hb, if_neg (by decide)]
    unfold wdA at HO
    by_cases hk : (ofW s.L x).k = 4
    · rw [if_pos hk]
      rw [hk] at HO
      clear h h1 h2 h3 hb hk
      generalize ofW s.L x = d at *
      have hf := wfld1 d.n 4 d.p d.a d.b d.m d.s d.key
      go_enter Try.func72, Try.ntmps72
      go_wp2_with (first | (go_at_call 53; refine HA.out.mono ?_; rintro e w1 ⟨rfl, e1⟩; rw [e1]; clear e1 w1) | (go_at_call 32; refine HO.out.mono ?_; rintro e w2 ⟨rfl, HB⟩) | fail)
      go_ret
      exact ⟨rfl, HB⟩
    · rw [if_neg hk]
      have hne : ((ofW s.L x).k == 4) = false := by simp [hk]
      clear h h1 h2 h3 hb hk
      generalize ofW s.L x = d at *
      have hf := wfld1 d.n d.k d.p d.a d.b d.m d.s d.key
      go_enter Try.func72, Try.ntmps72
      go_wp2_with (first | (go_at_call 53; refine HA.out.mono ?_; rintro e w1 ⟨rfl, e1⟩; rw [e1]; clear e1 w1) | (go_at_call 32; refine HO.out.mono ?_; rintro e w2 ⟨rfl, HB⟩) | fail)
      go_ret
      exact ⟨rfl, HB⟩
  · have hb : hasB s.L x = false := by
      cases q : hasB s.L x
      · rfl
      · obtain ⟨d, hd, e⟩ := hasB_iff.1 q
        exact absurd e (h3 d hd)
    rw [h1] at HA
    rw [hb, if_pos rfl]
    clear h h1 h2 h3 hb HO
    go_enter Try.func72, Try.ntmps72
    go_wp2_with (first | (go_at_call 53; refine HA.out.mono ?_; rintro e w1 ⟨rfl, e1⟩; rw [e1]; clear e1 w1) | fail)
    go_ret
    exact ⟨rfl, hidden (Below.refl _ _)⟩
theorem dsib_any {B m : Nat} {v : Value} {s : Ps} {w : World} (h : QAt B w m v s) (hn : s.L.length ≤ 1000) (x : Int) :
    Calls Try.prog 73 #[.pointer (some ⟨m, 0, none⟩), .int .i64 x] w fun e w' => e = .returned (.int .i64 (sibW s.L x)) ∧ Hid (Below w.heap.size w w') := by
  have HO1 := hidden (dof_any h hn x)
  have HO2 : Hid (∀ w1, Below w.heap.size w w1 → Calls Try.prog 32 #[.pointer (some ⟨m, 0, none⟩), .int .i64 (ofW s.L x).p] w1 fun e w' => e = .returned (wdA (ofW s.L (ofW s.L x).p)) ∧ Hid (Below w.heap.size w w')) := hidden (fun w1 hb => (dof_any (h.later hb) hn _).mono (fun e w' hh => ⟨hh.1, hidden (hb.trans (hh.2.out.mono hb.size))⟩))
  unfold sibW
  unfold wdA at HO1 HO2
  by_cases he : (ofW s.L (ofW s.L x).p).a = x
  · rw [if_pos he]
    rw [he] at HO2
    clear h he
    generalize ofW s.L (ofW s.L x).p = d2 at *
    generalize ofW s.L x = d1 at *
    have hf := wfld2 d1.n d1.k d1.p d1.a d1.b d1.m d1.s d1.key
    go_enter Try.func73, Try.ntmps73
    go_wp2_with (first | (go_at_call_of 32 (Value.int IntKind.i64 x); refine HO1.out.mono ?_; rintro e w1 ⟨rfl, HB1⟩) | (go_at_call 32; refine (HO2.out _ HB1.out).mono ?_; rintro e w2 ⟨rfl, HB2⟩) | fail)
    go_ret
    exact ⟨rfl, hidden (HB2.out.alloc HB2.out.size _)⟩
  · rw [if_neg he]
    have hne : ((ofW s.L (ofW s.L x).p).a == x) = false := by simp [he]
    clear h he
    generalize ofW s.L (ofW s.L x).p = d2 at *
    generalize ofW s.L x = d1 at *
    have hf := wfld2 d1.n d1.k d1.p d1.a d1.b d1.m d1.s d1.key
    go_enter Try.func73, Try.ntmps73
    go_wp2_with (first | (go_at_call_of 32 (Value.int IntKind.i64 x); refine HO1.out.mono ?_; rintro e w1 ⟨rfl, HB1⟩) | (go_at_call 32; refine (HO2.out _ HB1.out).mono ?_; rintro e w2 ⟨rfl, HB2⟩) | fail)
    go_ret
    exact ⟨rfl, hidden (HB2.out.alloc HB2.out.size _)⟩
set_option maxHeartbeats 4000000 in
theorem dbelow_any {B m : Nat} {v : Value} {s : Ps} {w : World} (h : QAt B w m v s) (hn : s.L.length ≤ 1000) (x top : Int) :
    Calls Try.prog 22 #[.pointer (some ⟨m, 0, none⟩), .int .i64 x, .int .i64 top] w fun e w' => e = .returned (.bool (upB s.L 100 x top)) ∧ Hid (Below w.heap.size w w') := by
  have HO : Hid (∀ y w1, Below w.heap.size w w1 → Calls Try.prog 32 #[.pointer (some ⟨m, 0, none⟩), .int .i64 y] w1 fun e w' => e = .returned (wdA (ofW s.L y)) ∧ Hid (Below w.heap.size w w')) := hidden (fun y w1 hb => (dof_any (h.later hb) hn y).mono (fun e w' hh => ⟨hh.1, hidden (hb.trans (hh.2.out.mono hb.size))⟩))
  obtain ⟨D, hD⟩ : ∃ D, upB s.L 100 x top = D := ⟨_, rfl⟩
  rw [hD]
  have HD := hidden hD
  clear h hD hn
  generalize hL : s.L = L at *
  go_enter Try.func22, Try.ntmps22
  go_upto_region 2 with fail
  go_loopw [1, 7] (fun a b w' => ∃ (z : Int) (j : Nat), a = .int .i64 z ∧ b = .int .i64 j ∧ j ≤ 100 ∧ Hid (upB L (100 - j) z top = D) ∧ Hid (Below w.heap.size w w')) (fun _ b _ => 100 - (intOf b).toNat)
  case atStart => exact ⟨x, 0, rfl, rfl, by omega, HD, hidden (Below.refl _ _)⟩
  case round =>
    obtain ⟨z, j, rfl, rfl, hj, HDz, HB⟩ := hrel
    by_cases h0 : z = 0
    · subst h0
      have HF : Hid (D = false) := hidden (by rw [← HDz.out]; exact upB_zero _ _ _)
      go_wp2
      go_ret
      exact ⟨by rw [HF.out]; rfl, HB⟩
    · have q0 : (z == 0) = false := by simp [h0]
      have q9 : (z != 0) = true := by simp [h0]
      by_cases hlt : j < 100
      · have l1 : (j : Int) < 100 := by omega
        obtain ⟨k, hk⟩ : ∃ k, 100 - j = k + 1 := ⟨99 - j, by omega⟩
        have HDk : Hid (upB L (k + 1) z top = D) := hidden (by rw [← hk]; exact HDz.out)
        have HK := hidden hk
        clear hk
        by_cases ht : z = top
        · have q1 : (z == top) = true := by simp [ht]
          have HF : Hid (D = true) := hidden (by rw [← HDk.out]; unfold upB; rw [if_neg h0, if_pos ht])
          clear ht h0
          go_wp2
          go_ret
          exact ⟨by rw [HF.out]; rfl, HB⟩
        · have q1 : (z == top) = false := by simp [ht]
          have HD2 : Hid (upB L (100 - (j + 1)) (ofW L z).p top = D) := hidden (by
            have q := HDk.out
            rw [← q, show 100 - (j + 1) = k by have := HK.out; omega]
            conv => rhs; unfold upB
            rw [if_neg h0, if_neg ht])
          have HOZ := hidden (HO.out z wr HB.out)
          unfold wdA at HOZ
          clear ht h0
          generalize ofW L z = d at *
          have hf := wfld2 d.n d.k d.p d.a d.b d.m d.s d.key
          go_wp2_with (first | (go_at_call 32; refine HOZ.out.mono ?_; rintro e w2 ⟨rfl, HB2⟩) | fail)
          go_roundw
          case rel => exact ⟨d.p, j + 1, rfl, by first | rfl | go_num, by omega, HD2, HB2⟩
          case measure => simp [intOf]; omega
      · obtain rfl : j = 100 := by omega
        have HF : Hid (D = false) := hidden (by rw [← HDz.out]; rfl)
        clear h0
        go_wp2
        go_ret
        exact ⟨by rw [HF.out]; rfl, HB⟩
end Go.Proofs.Ytilfgbcbodjegaa
