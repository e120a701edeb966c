/- The document's Encode. -/
import Derived.Test.YtpkfmccnjandoaaB11e
import Derived.Test.YtpkfmccnjandoaaB11p
import Derived.Laws.AppendOwnNone
namespace Go.Proofs.Ytpkfmccnjandoaa
open Go.RowKit
set_option maxHeartbeats 1000000
set_option maxRecDepth 100000
set_option linter.unusedVariables false

theorem denc_few (op : Int) (a : Option Addr) (n c : Nat) (l : List Od) (w : World) (h : Ops w a n c l) (hn : n ≤ 1000) (ho : opR op = none ∨ ∃ r, opR op = some r ∧ n ≠ r.2.2.length) :
    Calls Try.prog 17 #[.agg #[.int .u32 op, .slice a n c]] w fun e w' => ERet w w' op l e := by
  have hl : l.length = n := h.1
  have hsg := fun wx => dsig_any op wx
  have hno : encOk op l = false := by
    unfold encOk
    rcases ho with ho | ⟨r, ho, hne⟩
    · rw [ho]
    · rw [ho]
      simp only
      rw [show (l.length == r.2.2.length) = false by simp; omega]
      rfl
  have hiA : IB (w.alloc (.cells #[.int .u32 op, .slice a n c] 28)) w.heap.size op a n c := heap_alloc_new _ _
  have hbA : Below w.heap.size w (w.alloc (.cells #[.int .u32 op, .slice a n c] 28)) := (Below.refl _ _).alloc (Nat.le_refl _) _
  obtain ⟨k0, k1, _, _⟩ := ib_box hiA
  have HB := hidden hbA
  have HN := hidden hno
  rcases ho with ho | ⟨r, ho, hne⟩
  · rw [ho] at hsg
    have HSg := hidden hsg
    clear hsg hiA hbA h hno hl
    go_enter Try.func17, Try.ntmps17
    go_wp2_with (first | (go_at_call 30; refine (HSg.out _).mono ?_; rintro e w1 ⟨rfl, rfl⟩))
    refine bodyPost_ret (v := .tuple #[.slice none 0 0, .int .i64 1]) (by simp [results, Try.results17, go_sem]) rfl ⟨HB.out, fun _ => rfl, fun h => ?_⟩
    rw [HN.out] at h; cases h
  · rw [ho] at hsg
    have HSg := hidden hsg
    have hsz : (⟨r.2.2.toArray⟩ : ByteArray).size = r.2.2.length := by simp [ByteArray.size]
    have q : ((r.2.2.length : Int) != (n : Int)) = true := by simp; omega
    clear hsg hiA hbA h hno hl
    change Hid (∀ wx, Calls Try.prog 30 #[.int .u32 op] wx fun e w' => e = .returned (.tuple #[.string ⟨r.2.2.toArray⟩, .bool true]) ∧ w' = wx) at HSg
    go_enter Try.func17, Try.ntmps17
    go_wp2_with (first | (go_at_call 30; refine (HSg.out _).mono ?_; rintro e w1 ⟨rfl, rfl⟩))
    refine bodyPost_ret (v := .tuple #[.slice none 0 0, .int .i64 1]) (by simp [results, Try.results17, go_sem]) rfl ⟨HB.out, fun _ => rfl, fun h => ?_⟩
    rw [HN.out] at h; cases h
theorem dput_any (m x : Int) (w : World) (hn : widN m = 1 ∨ widN m = 2 ∨ widN m = 4) (x0 : 0 ≤ x) (x1 : x ≤ 4294967295) :
    Calls Try.prog 19 #[.int .u32 x, .int .i64 (widN m)] w fun e w' => ∃ g c, e = .returned (.slice (some ⟨g, 0, none⟩) (widN m) c) ∧ widN m ≤ c ∧ w.heap.size ≤ g ∧ w'.ownsRow w.heap.size 5 1 (.slice (some ⟨g, 0, none⟩) (widN m) c) (widN m) (bytesV (valB (m, x))) ∧ Below w.heap.size w w' := by
  have hv : valB (m, x) = putL x (widN m) := by unfold valB; rw [widI_nat]
  rw [hv]
  rcases hn with h | h | h
  · rw [h]
    refine (rput_1 x w x0 x1).mono ?_
    rintro e w' ⟨v, rfl, ho, hb⟩
    obtain ⟨g, cap, rfl, hc, hg⟩ := owned_shape ho (by omega)
    exact ⟨g, cap, rfl, hc, hg, ho, hb⟩
  · rw [h]
    refine (rput_2 x w x0 x1).mono ?_
    rintro e w' ⟨v, rfl, ho, hb⟩
    obtain ⟨g, cap, rfl, hc, hg⟩ := owned_shape ho (by omega)
    exact ⟨g, cap, rfl, hc, hg, ho, hb⟩
  · rw [h]
    refine (rput_4 x w x0 x1).mono ?_
    rintro e w' ⟨v, rfl, ho, hb⟩
    obtain ⟨g, cap, rfl, hc, hg⟩ := owned_shape ho (by omega)
    exact ⟨g, cap, rfl, hc, hg, ho, hb⟩
theorem own_other8 {w w' : World} {B n : Nat} {v : Value} {xs : List Value} (h : w.ownsRow B 5 1 v n xs) (hb : ∀ b, B ≤ b → w'.heap[b]? = w.heap[b]?) : w'.ownsRow B 5 1 v n xs := by
  refine ⟨h.1, ?_⟩
  rcases h.2 with h2 | ⟨g, cap, cur, hv, hB, hg, rest⟩
  · exact .inl h2
  · exact .inr ⟨g, cap, cur, hv, hB, (hb g hB).trans hg, rest⟩
theorem own_kept6 {w w' : World} {B n c C g : Nat} {xs : List Value} (h : w.ownsRow B 5 1 (.slice (some ⟨g, 0, none⟩) n c) n xs) (hb : Below C w w') (hg : g < C) : w'.ownsRow B 5 1 (.slice (some ⟨g, 0, none⟩) n c) n xs := by
  refine ⟨h.1, ?_⟩
  rcases h.2 with ⟨hv, _⟩ | ⟨g', cap, cur, hv, hB, hg', rest⟩
  · cases hv
  · cases hv
    exact .inr ⟨g, c, cur, rfl, hB, (hb.block g hg).trans hg', rest⟩
theorem own_lt8 {w w' : World} {B n : Nat} {v : Value} {xs : List Value} (h : w.ownsRow B 5 1 v n xs) (hb : ∀ b, b < w.heap.size → B ≤ b → w'.heap[b]? = w.heap[b]?) : w'.ownsRow B 5 1 v n xs := by
  refine ⟨h.1, ?_⟩
  rcases h.2 with h2 | ⟨g, cap, cur, hv, hB, hg, rest⟩
  · exact .inl h2
  · exact .inr ⟨g, cap, cur, hv, hB, (hb g (Array.getElem?_eq_some_iff.1 hg).1 hB).trans hg, rest⟩
theorem own_shape8 {w : World} {B n : Nat} {v : Value} {xs : List Value} (h : w.ownsRow B 5 1 v n xs) : ∃ a c, v = .slice a n c := by
  rcases h.2 with ⟨rfl, rfl⟩ | ⟨g, cap, cur, rfl, _⟩
  · exact ⟨none, 0, rfl⟩
  · exact ⟨_, _, rfl⟩
theorem told_0 (m x : Int) (h : widN m = 0) : valB (m, x) = [] ∧ toldV m (valB (m, x)) = 0 := by
  have e : valB (m, x) = [] := List.eq_nil_of_length_eq_zero (by rw [valB_len]; exact h)
  exact ⟨e, by rw [e]; simp [toldV, beN, extW]⟩
theorem told_be (m x : Int) (h : widN m ≠ 0) : beN (valB (m, x)) = beV (valB (m, x)) 0 (widN m) := by
  unfold beN
  rw [valB_len, if_neg h]
theorem isC_lt {m : Int} (h : okM m = true) (hw : widN m ≠ 0) : isC m = decide (m < 4) := by
  have hb := okM_bd h
  by_cases h4 : m < 4
  · rcases (show m = 0 ∨ m = 1 ∨ m = 2 ∨ m = 3 by omega) with rfl | rfl | rfl | rfl
    · exact absurd rfl hw
    · rfl
    · rfl
    · rfl
  · unfold isC
    rw [show (m == 1) = false by simp; omega, show (m == 2) = false by simp; omega, show (m == 3) = false by simp; omega, show decide (m < 4) = false by simp; omega]
    rfl
end Go.Proofs.Ytpkfmccnjandoaa
