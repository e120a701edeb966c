/- Layer 13: the document's functions (package grottoref13): has, Span, noughts, below. -/
import Derived.Test.YtejkaambbaejaaaF13D
namespace Go.Proofs.Ytejkaambbaejaaa
open Go.RowKit
set_option maxHeartbeats 1000000
set_option maxRecDepth 100000
set_option linter.unusedVariables false

theorem dhas_1 (ky ks st sz ct of nx : Int) (x : Nat) (w : World) (hx : x < 4294967296) :
    Calls Try.prog 32 #[.agg #[.int .u32 ky, .int .u32 ks, .int .u32 st, .int .u32 sz, .int .u32 ct, .int .u32 of, .int .u32 nx, .int .u32 x], .int .u32 1] w fun e w' => e = .returned (.bool (optB x 1)) ∧ Below w.heap.size w w' := by
  have e1 : (x : Int).tdiv 1 = ((x / 1 : Nat) : Int) := by rw [Int.tdiv_eq_ediv_of_nonneg (by omega)]; omega
  have e2 : IntKind.u32.wrap ((x / 1 : Nat) : Int) = ((x / 1 : Nat) : Int) := by rw [IntKind.wrap_u32]; omega
  have e3 : ((x / 1 : Nat) : Int).tmod 2 = ((x / 1 % 2 : Nat) : Int) := by rw [Int.tmod_eq_emod_of_nonneg (by omega)]; omega
  have e4 : IntKind.u32.wrap ((x / 1 % 2 : Nat) : Int) = ((x / 1 % 2 : Nat) : Int) := by rw [IntKind.wrap_u32]; omega
  have e5 : (((x / 1 % 2 : Nat) : Int) == 1) = optB x 1 := by
    unfold optB
    have h2 : x / 1 % 2 = 0 ∨ x / 1 % 2 = 1 := by omega
    generalize x / 1 % 2 = Z at *
    rcases h2 with rfl | rfl <;> rfl
  have hbl : Below w.heap.size w (w.alloc (.cells #[.int .u32 ky, .int .u32 ks, .int .u32 st, .int .u32 sz, .int .u32 ct, .int .u32 of, .int .u32 nx, .int .u32 x] 25)) := (Below.refl _ _).alloc (Nat.le_refl _) _
  generalize x / 1 % 2 = Z at *
  generalize x / 1 = Y at *
  generalize optB x 1 = b at *
  go_enter Try.func32, Try.ntmps32
  go_wp2
  go_ret
  first | exact ⟨rfl, hbl⟩ | (refine ⟨?_, hbl⟩; simp_all)
theorem dhas_2 (ky ks st sz ct of nx : Int) (x : Nat) (w : World) (hx : x < 4294967296) :
    Calls Try.prog 32 #[.agg #[.int .u32 ky, .int .u32 ks, .int .u32 st, .int .u32 sz, .int .u32 ct, .int .u32 of, .int .u32 nx, .int .u32 x], .int .u32 2] w fun e w' => e = .returned (.bool (optB x 2)) ∧ Below w.heap.size w w' := by
  have e1 : (x : Int).tdiv 2 = ((x / 2 : Nat) : Int) := by rw [Int.tdiv_eq_ediv_of_nonneg (by omega)]; omega
  have e2 : IntKind.u32.wrap ((x / 2 : Nat) : Int) = ((x / 2 : Nat) : Int) := by rw [IntKind.wrap_u32]; omega
  have e3 : ((x / 2 : Nat) : Int).tmod 2 = ((x / 2 % 2 : Nat) : Int) := by rw [Int.tmod_eq_emod_of_nonneg (by omega)]; omega
  have e4 : IntKind.u32.wrap ((x / 2 % 2 : Nat) : Int) = ((x / 2 % 2 : Nat) : Int) := by rw [IntKind.wrap_u32]; omega
  have e5 : (((x / 2 % 2 : Nat) : Int) == 1) = optB x 2 := by
    unfold optB
    have h2 : x / 2 % 2 = 0 ∨ x / 2 % 2 = 1 := by omega
    generalize x / 2 % 2 = Z at *
    rcases h2 with rfl | rfl <;> rfl
  have hbl : Below w.heap.size w (w.alloc (.cells #[.int .u32 ky, .int .u32 ks, .int .u32 st, .int .u32 sz, .int .u32 ct, .int .u32 of, .int .u32 nx, .int .u32 x] 25)) := (Below.refl _ _).alloc (Nat.le_refl _) _
  generalize x / 2 % 2 = Z at *
  generalize x / 2 = Y at *
  generalize optB x 2 = b at *
  go_enter Try.func32, Try.ntmps32
  go_wp2
  go_ret
  first | exact ⟨rfl, hbl⟩ | (refine ⟨?_, hbl⟩; simp_all)
theorem dhas_4 (ky ks st sz ct of nx : Int) (x : Nat) (w : World) (hx : x < 4294967296) :
    Calls Try.prog 32 #[.agg #[.int .u32 ky, .int .u32 ks, .int .u32 st, .int .u32 sz, .int .u32 ct, .int .u32 of, .int .u32 nx, .int .u32 x], .int .u32 4] w fun e w' => e = .returned (.bool (optB x 4)) ∧ Below w.heap.size w w' := by
  have e1 : (x : Int).tdiv 4 = ((x / 4 : Nat) : Int) := by rw [Int.tdiv_eq_ediv_of_nonneg (by omega)]; omega
  have e2 : IntKind.u32.wrap ((x / 4 : Nat) : Int) = ((x / 4 : Nat) : Int) := by rw [IntKind.wrap_u32]; omega
  have e3 : ((x / 4 : Nat) : Int).tmod 2 = ((x / 4 % 2 : Nat) : Int) := by rw [Int.tmod_eq_emod_of_nonneg (by omega)]; omega
  have e4 : IntKind.u32.wrap ((x / 4 % 2 : Nat) : Int) = ((x / 4 % 2 : Nat) : Int) := by rw [IntKind.wrap_u32]; omega
  have e5 : (((x / 4 % 2 : Nat) : Int) == 1) = optB x 4 := by
    unfold optB
    have h2 : x / 4 % 2 = 0 ∨ x / 4 % 2 = 1 := by omega
    generalize x / 4 % 2 = Z at *
    rcases h2 with rfl | rfl <;> rfl
  have hbl : Below w.heap.size w (w.alloc (.cells #[.int .u32 ky, .int .u32 ks, .int .u32 st, .int .u32 sz, .int .u32 ct, .int .u32 of, .int .u32 nx, .int .u32 x] 25)) := (Below.refl _ _).alloc (Nat.le_refl _) _
  generalize x / 4 % 2 = Z at *
  generalize x / 4 = Y at *
  generalize optB x 4 = b at *
  go_enter Try.func32, Try.ntmps32
  go_wp2
  go_ret
  first | exact ⟨rfl, hbl⟩ | (refine ⟨?_, hbl⟩; simp_all)
/-- the document's memory, of which all bytes are known -/
def DRd (w : World) (d : Nat) (bs : List Int) : Prop := ∃ B g c ram, DMem B w d g c ram bs ∧ bs.length ≤ 1048576 ∧ OkB bs
theorem DRd.later {w w' : World} {d : Nat} {bs : List Int} (h : DRd w d bs) (hb : Below w.heap.size w w') : DRd w' d bs := by
  obtain ⟨B, g, c, ram, h1, h2, h3⟩ := h
  exact ⟨B, g, c, ram, h1.later hb, h2, h3⟩
theorem DRd.le {w : World} {d : Nat} {bs : List Int} (h : DRd w d bs) : bs.length ≤ 1048576 := by
  obtain ⟨B, g, c, ram, h1, h2, h3⟩ := h
  exact h2
theorem DRd.okb {w : World} {d : Nat} {bs : List Int} (h : DRd w d bs) : OkB bs := by
  obtain ⟨B, g, c, ram, h1, h2, h3⟩ := h
  exact h3
theorem DRd.cells {w : World} {d : Nat} {bs : List Int} (h : DRd w d bs) : ∃ g c, w.cell? ⟨d, 0, none⟩ = some (.slice (some ⟨g, 0, none⟩) bs.length c) ∧ ∀ i, i < bs.length → w.cell? ⟨g, i, none⟩ = some (.int .u8 (bs.getD i 0)) := by
  obtain ⟨B, g, c, ram, h1, h2, h3⟩ := h
  exact ⟨g, c, h1.cells.1, fun i hi => by have := owned_cells h1.row i hi; rwa [Nat.zero_add] at this⟩
/-- what Span answers -/
def SpRet (w : World) (bs : List Int) (a n : Nat) (e : Ending) (w' : World) : Prop := Below w.heap.size w w' ∧ ((tkE bs.length a n ≠ 0 ∧ e = .returned (.tuple #[.slice none 0 0, .bool false])) ∨ (tkE bs.length a n = 0 ∧ ∃ v, e = .returned (.tuple #[v, .bool true]) ∧ w'.ownsRow w.heap.size 5 1 v n (bytesV (seg bs a n))))
theorem seg_snoc (bs : List Int) (a k : Nat) (h : a + k < bs.length) : seg bs a (k + 1) = seg bs a k ++ [bs.getD (a + k) 0] := by
  unfold seg
  rw [List.take_add_one, List.getElem?_drop]
  simp [List.getElem?_eq_getElem h]
theorem span_any (d : Nat) (bs : List Int) (a n : Nat) (w : World) (D : DRd w d bs) (ha : a < 4294967296) (hn : n ≤ 256) :
    Calls Try.prog 22 #[.pointer (some ⟨d, 0, none⟩), .int .u32 a, .int .u32 n] w (SpRet w bs a n) := by
  obtain ⟨i0, hi, hz0, hz1, hz2⟩ := info_parts info8
  have hle := D.le
  obtain ⟨g, c, c0, cc⟩ := D.cells
  have HD := hidden D
  clear D cc
  have e1 : IntKind.i64.wrap (a : Int) = a := by rw [IntKind.wrap_i64]; omega
  have e2 : IntKind.i64.wrap (n : Int) = n := by rw [IntKind.wrap_i64]; omega
  have e3 : IntKind.i64.wrap ((a : Int) + n) = (a : Int) + n := by rw [IntKind.wrap_i64]; omega
  by_cases hbad : ¬ (n = 0 ∨ a + n ≤ bs.length)
  · have HE : Hid (tkE bs.length a n = 90) := hidden (by unfold tkE; rw [if_neg hbad])
    have l1 : (bs.length : Int) < (a : Int) + n := by omega
    have l2 : (0 : Int) < n := by omega
    clear hbad
    generalize hLL : bs.length = LL at *
    have HLL := hidden hLL
    clear hLL
    go_enter Try.func22, Try.ntmps22
    go_wp2
    go_ret2
    unfold SpRet
    rw [HLL.out]
    exact ⟨Below.refl _ _, .inl ⟨by rw [HE.out]; decide, rfl⟩⟩
  · have hgood : n = 0 ∨ a + n ≤ bs.length := by omega
    have HE : Hid (tkE bs.length a n = 0) := hidden (by unfold tkE; rw [if_pos hgood])
    have hg : (decide ((bs.length : Int) < (a : Int) + n) && decide ((0 : Int) < (n : Int))) = false := by
      rcases hgood with h | h
      · subst h; simp
      · have : ¬ ((bs.length : Int) < (a : Int) + n) := by omega
        simp [this]
    clear hbad
    by_cases hn0 : n = 0
    · subst hn0
      have q0 : IntKind.i64.wrap ((0 : Nat) : Int) = 0 := by decide
      generalize hLL : bs.length = LL at *
      have HLL := hidden hLL
      clear hLL hgood hg e2
      by_cases l1 : (LL : Int) < (a : Int) + ((0 : Nat) : Int)
      · have l1' : (LL : Int) < (a : Int) := by omega
        go_enter Try.func22, Try.ntmps22
        go_upto_region 5 with fail
        go_rounds 1
        all_goals (try go_wp2)
        go_ret2
        unfold SpRet
        rw [HLL.out, seg_zero]
        exact ⟨Below.refl _ _, .inr ⟨HE.out, _, rfl, World.ownsRow_nil _ _ _ _⟩⟩
      · have l1' : ¬ ((LL : Int) < (a : Int)) := by omega
        go_enter Try.func22, Try.ntmps22
        go_upto_region 5 with fail
        go_rounds 1
        all_goals (try go_wp2)
        go_ret2
        unfold SpRet
        rw [HLL.out, seg_zero]
        exact ⟨Below.refl _ _, .inr ⟨HE.out, _, rfl, World.ownsRow_nil _ _ _ _⟩⟩
    have l1 : ¬ ((bs.length : Int) < (a : Int) + n) := by omega
    clear hg
    generalize hLL : bs.length = LL at *
    go_enter Try.func22, Try.ntmps22
    go_upto_region 5 with fail
    go_loopw [8, 9] (fun v i w' => ∃ k : Nat, k ≤ n ∧ i = .int .i64 k ∧ Hid (w'.ownsRow w.heap.size 5 1 v k (bytesV (seg bs a k))) ∧ Hid (Below w.heap.size w w')) (fun _ i _ => n - (intOf i).toNat)
    case atStart => exact ⟨0, by omega, rfl, hidden (by rw [seg_zero]; exact World.ownsRow_nil _ _ _ _), hidden (Below.refl _ _)⟩
    case round =>
      obtain ⟨k, hk, rfl, hO, hB⟩ := hrel
      by_cases hlt : k < n
      · have m1 : (k : Int) < n := by omega
        have hak : a + k < LL := by omega
        have m2 : (a : Int) + k < LL := by omega
        have m3 : (0 : Int) ≤ (a : Int) + k := by omega
        have m4 : ((a : Int) + (k : Int)).toNat = a + k := by omega
        have m5 : IntKind.i64.wrap ((a : Int) + k) = (a : Int) + k := by rw [IntKind.wrap_i64]; omega
        obtain ⟨g2, c2, d0, dc⟩ := (HD.out.later hB.out).cells
        rw [hLL] at d0 dc
        have hcl := dc (a + k) hak
        have HSG := hidden (seg_snoc bs a k (by omega))
        generalize bs.getD (a + k) 0 = V at *
        have hsz := hB.out.size
        have HO4 : Hid ((wr.alloc (.cells #[.int .u8 V] 5)).ownsRow w.heap.size 5 1 u8 k (bytesV (seg bs a k))) := hidden (hO.out.alloc _)
        have HN4 : Hid (∀ j u, (bytesV [V])[j]? = some u → (wr.alloc (.cells #[.int .u8 V] 5)).cell? ((⟨wr.heap.size, 0, none⟩ : Addr).add j) = some u) := hidden (fun j u h => new_cell wr [V] (by unfold maxLen; simp) j u h)
        have HB4 : Hid (Below w.heap.size w (wr.alloc (.cells #[.int .u8 V] 5))) := hidden (hB.out.alloc hsz _)
        have hs4 := HB4.out.size
        clear dc hO
        go_wp2_with (at_builtin; refine wpList_append_own _ rfl (.tmp 31) (.tmp 42) 22 rfl w.heap.size 5 i0 (.int .u8 0) 1 1 Try.underlying22 hi hz0 hz1 hz2 rfl (by decide) _ _ _ rfl HO4.out ⟨wr.heap.size, 0, none⟩ 1 1 (bytesV [V]) rfl (by simp [bytesV]) HN4.out (bytesV_one _) (by unfold maxLen; omega) (by omega) (by omega) ?_; intro v6 w6 hown6 hgrow6 hiff6; clear hiff6; refine Hid.out ?_)
        have hbl6 : Below w.heap.size w w6 := HB4.out.grown hgrow6 hs4 (fun k hk => (HO4.out.lt k hk).1)
        rw [bytesV_append, ← HSG.out] at hown6
        have HO6 := hidden hown6
        have HB6 := hidden hbl6
        clear hgrow6 hown6 hbl6 HN4 HO4 HB4 hs4
        refine hidden ?_
        go_wp2
        go_roundw
        case rel => exact ⟨k + 1, by omega, by go_num, HO6, HB6⟩
        case measure => simp [intOf]; omega
      · obtain rfl : k = n := by omega
        have m1 : ¬ ((k : Int) < k) := by omega
        go_wp2
        go_ret2
        unfold SpRet
        rw [hLL]
        exact ⟨hB.out, .inr ⟨HE.out, _, rfl, hO.out⟩⟩
end Go.Proofs.Ytejkaambbaejaaa
