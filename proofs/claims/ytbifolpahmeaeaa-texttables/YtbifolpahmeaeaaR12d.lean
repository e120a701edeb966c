/- Contract of package text's layNode, for any list. -/
import Derived.Test.YtbifolpahmeaeaaR12c
import Derived.Deep.RegionHeld3
namespace Go.Proofs.Ytbifolpahmeaeaa
open Go.RowKit Go.Maps
set_option maxHeartbeats 1000000
set_option maxRecDepth 100000
set_option linter.unusedVariables false

/-- a node's bytes: f is the fuel -/
def ndL : Nat → Nat → List Nat → List Int
  | 0, _, _ => [1]
  | f + 1, T, l => if l.length = 0 then [1] else if l.length = 1 then (if l.getD 0 0 < 256 then [2, ((l.getD 0 0 : Nat) : Int)] else [4] ++ putL ((l.getD 0 0 : Nat) : Int) 4) else [0] ++ (putL ((((T + 9) % 4294967296 : Nat)) : Int) 4 ++ (putL (((((T + 9) % 4294967296 + (ndL f ((T + 9) % 4294967296) (l.take (l.length / 2))).length) % 4294967296 : Nat)) : Int) 4 ++ (ndL f ((T + 9) % 4294967296) (l.take (l.length / 2)) ++ ndL f (((T + 9) % 4294967296 + (ndL f ((T + 9) % 4294967296) (l.take (l.length / 2))).length) % 4294967296) (l.drop (l.length / 2)))))
/-- how many nodes -/
def ndN : Nat → List Nat → Nat
  | 0, _ => 1
  | f + 1, l => if l.length ≤ 1 then 1 else 1 + ndN f (l.take (l.length / 2)) + ndN f (l.drop (l.length / 2))
theorem ndN_le : ∀ (f : Nat) (l : List Nat), l.length ≤ f → 0 < l.length → ndN f l + 1 ≤ 2 * l.length
  | 0, l, h, h0 => by omega
  | f + 1, l, h, h0 => by
    unfold ndN
    split
    · omega
    · have h1 := ndN_le f (l.take (l.length / 2)) (by rw [List.length_take]; omega) (by rw [List.length_take]; omega)
      have h2 := ndN_le f (l.drop (l.length / 2)) (by rw [List.length_drop]; omega) (by rw [List.length_drop]; omega)
      rw [List.length_take] at h1
      rw [List.length_drop] at h2
      omega
theorem ndL_le : ∀ (f T : Nat) (l : List Nat), l.length ≤ f → 0 < l.length → (ndL f T l).length + 9 ≤ 14 * l.length
  | 0, T, l, h, h0 => by omega
  | f + 1, T, l, h, h0 => by
    unfold ndL
    split
    · omega
    · split
      · split
        · simp; omega
        · simp [putL]; omega
      · have h1 := ndL_le f ((T + 9) % 4294967296) (l.take (l.length / 2)) (by rw [List.length_take]; omega) (by rw [List.length_take]; omega)
        have h2 := ndL_le f (((T + 9) % 4294967296 + (ndL f ((T + 9) % 4294967296) (l.take (l.length / 2))).length) % 4294967296) (l.drop (l.length / 2)) (by rw [List.length_drop]; omega) (by rw [List.length_drop]; omega)
        rw [List.length_take] at h1
        rw [List.length_drop] at h2
        have e : ∀ x : Int, (putL x 4).length = 4 := fun x => rfl
        simp only [List.length_append, e, List.length_cons, List.length_nil]
        omega
theorem VRow.sub {w : World} {ca : Option Addr} {m : Nat} {xs : List Nat} (h : VRow w ca m xs) (b o k : Nat) (hc : ca = some ⟨b, o, none⟩) (hk : k ≤ m) : VRow w (some ⟨b, o + k, none⟩) (m - k) (xs.drop k) := by
  subst hc
  refine ⟨by rw [List.length_drop, h.ln], fun x hx => h.bd x (List.mem_of_mem_drop hx), fun i hi => ⟨b, o + k, rfl, ?_⟩⟩
  obtain ⟨b', o', e, hc⟩ := h.cells (k + i) (by omega)
  cases e
  rw [show o + k + i = o + (k + i) by omega, hc]
  simp [List.getD_eq_getElem?_getD, List.getElem?_drop]
theorem VRow.tk {w : World} {ca : Option Addr} {m : Nat} {xs : List Nat} (h : VRow w ca m xs) (k : Nat) (hk : k ≤ m) : VRow w ca k (xs.take k) := by
  refine ⟨by rw [List.length_take, h.ln]; omega, fun x hx => h.bd x (List.mem_of_mem_take hx), fun i hi => ?_⟩
  obtain ⟨b, o, e, hc⟩ := h.cells i (by omega)
  refine ⟨b, o, e, ?_⟩
  rw [hc]
  simp [List.getD_eq_getElem?_getD, hi]
theorem node_one (f T : Nat) (a : Option Addr) (c X : Nat) (l : List Nat) (w : World) (h : VRow w a 1 l) (hX : l.getD 0 0 = X) :
    Calls Try.prog 31 #[.int .u32 T, .slice a 1 c] w (NdRet w (if X < 256 then [2, (X : Int)] else [4] ++ putL (X : Int) 4) 1) := by
  obtain ⟨b, o, rfl, hc⟩ := h.cells 0 (by omega)
  have hXb : X < 4294967296 := by rw [← hX]; exact h.bd _ (by rw [List.getD_eq_getElem?_getD, List.getElem?_eq_getElem (by rw [h.ln]; omega)]; simp)
  rw [hX] at hc
  have hc' : w.cell? ⟨b, o, none⟩ = some (.int .u32 (X : Int)) := hc
  clear h hc hX
  by_cases h0 : X < 256
  · rw [if_pos h0]
    have g1 : (X : Int) < 256 := by omega
    have g2 : IntKind.u8.wrap (X : Int) = X := by rw [IntKind.wrap_u8]; omega
    have ho := owns_new w w.heap.size [2, (X : Int)] (Nat.le_refl _) (by show 2 ≤ maxLen; decide)
    have HR := hidden (own_reads ho)
    clear ho
    go_enter Try.func31, Try.ntmps31
    go_wp2
    go_ret2
    exact ⟨_, _, rfl, HR.out, (Below.refl _ _).alloc (Nat.le_refl _) _⟩
  · rw [if_neg h0]
    have g1 : ¬ (X : Int) < 256 := by omega
    have HO := hidden (owns_new w w.heap.size [4] (Nat.le_refl _) (by decide))
    have HB0 := hidden (al_below w (.cells #[.int .u8 4] 5))
    have HPT : Hid (Calls Try.prog 20 #[.int .u32 (X : Int), .int .i64 4] (w.alloc (.cells #[.int .u8 4] 5)) fun e w' => e = .returned (.slice (some ⟨w.heap.size + 1, 0, none⟩) 4 4) ∧ Hid (Reads w' (some ⟨w.heap.size + 1, 0, none⟩) 4 4 (putL X 4)) ∧ Hid (Below w.heap.size w w') ∧ Hid (w'.ownsRow w.heap.size 5 1 (.slice (some ⟨w.heap.size, 0, none⟩) 1 1) 1 (bytesV [4]))) := hidden ((put4 (X : Int) (putL X 4) rfl rfl (w.alloc (.cells #[.int .u8 4] 5))).mono (by
      rintro e w' ⟨h1, h2, h3⟩
      have hs : (w.alloc (.cells #[.int .u8 4] 5)).heap.size = w.heap.size + 1 := by simp
      refine ⟨by rw [h1, hs], hidden (by rw [← hs]; exact h2), hidden (HB0.out.trans (h3.mono HB0.out.size)), hidden (own_later HO.out h3)⟩))
    have hcA := cellLater HB0.out hc'
    clear HO HB0
    go_enter Try.func31, Try.ntmps31
    go_wp2_with (first | (go_at_call 20; refine HPT.out.mono ?_; rintro r w4 ⟨rfl, HR4, HB4, HO4⟩) | (at_builtin; refine wpList_appR rfl _ _ rfl w.heap.size w.heap.size 1 1 4 4 (some ⟨w.heap.size + 1, 0, none⟩) [4] (putL (X : Int) 4) rfl rfl HO4.out HR4.out (by omega) HB4.out.size ?_; intro g5 c5 w5 ho5 f5; have HR5 := hidden (own_reads ho5); have HB5 := hidden (HB4.out.trans (f5.out.below HB4.out.size (fun k e => (HO4.out.lt k e).1))); clear ho5 f5))
    go_ret2
    exact ⟨g5, c5, rfl, HR5.out, HB5.out⟩
theorem node_all : ∀ (f T : Nat) (a : Option Addr) (n c : Nat) (l : List Nat) (w : World), n ≤ f → n ≤ c → c ≤ 9223372036854775807 → VRow w a n l → T < 4294967296 → n ≤ 1024 → Calls Try.prog 31 #[.int .u32 T, .slice a n c] w (NdRet w (ndL f T l) (ndN f l))
  | f, T, a, n, c, l, w, hf, hcp, hcm, h, hT, hn => by
    have hln := h.ln
    by_cases h0 : n = 0
    · subst h0
      have e1 : ndL f T l = [1] := by cases f with
        | zero => rfl
        | succ f => unfold ndL; rw [if_pos hln]
      have e2 : ndN f l = 1 := by cases f with
        | zero => rfl
        | succ f => unfold ndN; rw [if_pos (by omega)]
      rw [e1, e2]
      exact (node_nil T a c w).mono (fun r w' hh => ⟨_, _, hh.1, hh.2.1, hh.2.2⟩)
    · obtain ⟨f, rfl⟩ : ∃ f', f = f' + 1 := ⟨f - 1, by omega⟩
      by_cases h1 : n = 1
      · subst h1
        have e1 : ndL (f + 1) T l = if l.getD 0 0 < 256 then [2, ((l.getD 0 0 : Nat) : Int)] else [4] ++ putL ((l.getD 0 0 : Nat) : Int) 4 := by unfold ndL; rw [if_neg (by omega), if_pos hln]
        have e2 : ndN (f + 1) l = 1 := by unfold ndN; rw [if_pos (by omega)]
        rw [e1, e2]
        exact node_one f T a c _ l w h rfl
      · obtain ⟨b, o, ha, -⟩ := h.cells 0 (by omega)
        obtain ⟨M2, hM2⟩ : ∃ M2 : Nat, M2 = n / 2 := ⟨_, rfl⟩
        have hlt : (l.take M2).length = M2 := by rw [List.length_take]; omega
        have hld : (l.drop M2).length = n - M2 := by rw [List.length_drop]; omega
        obtain ⟨LA, hLA⟩ : ∃ LA, LA = (T + 9) % 4294967296 := ⟨_, rfl⟩
        obtain ⟨zL, hzL⟩ : ∃ zL, zL = ndL f LA (l.take M2) := ⟨_, rfl⟩
        obtain ⟨RA, hRA⟩ : ∃ RA, RA = (LA + zL.length) % 4294967296 := ⟨_, rfl⟩
        obtain ⟨zR, hzR⟩ : ∃ zR, zR = ndL f RA (l.drop M2) := ⟨_, rfl⟩
        have b1 := ndL_le f LA (l.take M2) (by omega) (by omega)
        have b2 := ndL_le f RA (l.drop M2) (by omega) (by omega)
        have b3 := ndN_le f (l.take M2) (by omega) (by omega)
        have b4 := ndN_le f (l.drop M2) (by omega) (by omega)
        rw [← hzL] at b1
        rw [← hzR] at b2
        have e1 : ndL (f + 1) T l = [0] ++ (putL LA 4 ++ (putL RA 4 ++ (zL ++ zR))) := by
          conv => lhs; unfold ndL
          rw [if_neg (by omega), if_neg (by omega), hln, ← hM2, ← hLA, ← hzL, ← hRA, ← hzR]
        have e2 : ndN (f + 1) l = 1 + ndN f (l.take M2) + ndN f (l.drop M2) := by
          conv => lhs; unfold ndN
          rw [if_neg (by omega), hln, ← hM2]
        rw [e1, e2]
        have HBQ : Hid (∀ wx, Below w.heap.size w wx → Calls Try.prog 18 #[.int .u32 T, .slice (some ⟨b, o, none⟩) M2 c, .slice (some ⟨b, o + M2, none⟩) (n - M2) (c - M2)] wx fun r w' => ∃ v1 v2, r = .returned (.tuple #[v1, v2]) ∧ Hid (NdRet w ([0] ++ (putL LA 4 ++ (putL RA 4 ++ (zL ++ zR)))) (1 + ndN f (l.take M2) + ndN f (l.drop M2)) (.returned (.tuple #[v1, v2])) w')) := hidden (fun wx hwx => (branch_of T LA RA (ndN f (l.take M2)) (ndN f (l.drop M2)) (some ⟨b, o, none⟩) (some ⟨b, o + M2, none⟩) M2 c (n - M2) (c - M2) zL zR wx hLA hRA hT (by omega) (by omega) (by omega) (by omega)
          (fun w1 hb => by rw [hzL]; exact node_all f LA _ M2 c _ w1 (by omega) (by omega) hcm ((ha ▸ (h.later hwx).later hb).tk M2 (by omega)) (by omega) (by omega))
          (fun w1 hb => by rw [hzR]; exact node_all f RA _ (n - M2) (c - M2) _ w1 (by omega) (by omega) (by omega) (((h.later hwx).later hb).sub b o M2 ha (by omega)) (by omega) (by omega))).mono (fun r w' hh => by
          obtain ⟨g, cc, e, hr, hb⟩ := hh
          exact ⟨_, _, e, hidden ⟨g, cc, rfl, hr, hwx.trans (hb.mono hwx.size)⟩⟩))
        subst ha
        have hq : (n : Int).tdiv 2 = (M2 : Int) := by rw [Int.tdiv_eq_ediv_of_nonneg (by omega)]; omega
        have q1 : ((n : Int) == 0) = false := by simp; omega
        have q2 : ((n : Int) == 1) = false := by simp; omega
        have q3 : M2 ≤ n := by omega
        have q4 : M2 ≤ c := by omega
        have q5 : ¬ c = M2 := by omega
        generalize NdRet w ([0] ++ (putL LA 4 ++ (putL RA 4 ++ (zL ++ zR)))) (1 + ndN f (l.take M2) + ndN f (l.drop M2)) = PQ at *
        clear h hln hM2 hlt hld hzL hzR hLA hRA b1 b2 b3 b4 e1 e2 h0 h1
        go_enter Try.func31, Try.ntmps31
        go_upto_region 8 with fail
        go_region_held3 (fun w' => True) (exact trivial) (first | (go_at_call 18; refine (HBQ.out _ (by first | exact (Below.refl _ _).drew | exact Below.refl _ _)).mono ?_; rintro r w1 ⟨v1, v2, rfl, HH⟩) | fail)
        go_wp2
        exact HH.out
end Go.Proofs.Ytbifolpahmeaeaa
