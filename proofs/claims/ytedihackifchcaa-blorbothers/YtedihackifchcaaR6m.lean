/- The document's Places; bytes laid over an own row. -/
import Derived.Test.YtedihackifchcaaR6l
namespace Go.Proofs.Ytedihackifchcaa
open Go.RowKit
set_option maxHeartbeats 1000000
set_option maxRecDepth 100000
set_option linter.unusedVariables false

theorem bytesV_splice (zs ds : List Int) (off : Nat) : bytesV (splice zs off ds) = splice (bytesV zs) off (bytesV ds) := by
  simp [bytesV, splice, List.map_append, List.map_take, List.map_drop]
/-- an owned row over which bytes are laid -/
theorem own_splice {w : World} {B g n cap : Nat} {zs : List Int} (h : w.ownsRow B 5 1 (.slice (some ⟨g, 0, none⟩) n cap) n (bytesV zs)) :
    ∃ cur : List Value, w.heap[g]? = some (.cells cur.toArray 5 (0, 0)) ∧ n ≤ cur.length ∧ B ≤ g ∧ n ≤ cap ∧ cap ≤ maxLen ∧ ∀ (w' : World) (off : Nat) (ds : List Int), off + ds.length ≤ n → w'.heap[g]? = some (.cells (splice cur off (bytesV ds)).toArray 5 (0, 0)) →
      w'.ownsRow B 5 1 (.slice (some ⟨g, 0, none⟩) n cap) n (bytesV (splice zs off ds)) := by
  have hl : (bytesV zs).length = n * 1 := h.1
  have hzl : zs.length = n := by simpa [bytesV] using hl
  rcases h.2 with ⟨h2, _⟩ | ⟨g', cap', cur, h1, h2, h3, h4, h5, h6, h7⟩
  · cases h2
  · simp only [Value.slice.injEq, Option.some.injEq, Addr.mk.injEq, true_and, and_true] at h1
    obtain ⟨rfl, rfl⟩ := h1
    refine ⟨cur.toList, by simpa using h3, by simp; omega, h2, h4, h5, fun w' off ds ho hw => ?_⟩
    have hcl : cur.toList.length = cap := by simp; omega
    have hbl : (bytesV ds).length = ds.length := by simp [bytesV]
    have hsl : (splice cur.toList off (bytesV ds)).length = cap := by rw [length_splice _ _ _ (by omega)]; exact hcl
    refine ⟨by rw [bytesV_splice, length_splice _ _ _ (by omega)]; exact hl, .inr ⟨g, cap, _, rfl, h2, hw, h4, h5, by simpa using hsl, ?_⟩⟩
    rw [bytesV_splice, ← h7, Nat.mul_one]
    simp only [splice]
    rw [List.take_append, List.take_take, List.take_take, List.length_take, List.take_append, List.drop_take, hcl, hbl]
    rw [show min n off = off by omega, show min off n = off by omega, show min off cap = off by omega, List.take_of_length_le (show (bytesV ds).length ≤ n - off by omega)]
    rw [show n - (off + ds.length) = n - off - ds.length by omega]
theorem Cks.cut {w : World} {b off len cap : Nat} {cs : List Ck} (h : Cks w (some ⟨b, off, none⟩) len cap cs) (h0 : 0 < len) (k : Nat) (hk : k ≤ len) : Cks w (some ⟨b, off, none⟩) k cap (cs.take k) := by
  have hl := h.1
  obtain ⟨b', off', e, hc⟩ := h.at h0
  cases e
  refine ⟨by rw [List.length_take]; omega, by have := h.2.1; omega, .inr ⟨b, off, rfl, fun i hi => ?_⟩, fun c hc => h.2.2.2 c (List.mem_of_mem_take hc)⟩
  rw [List.length_take] at hi
  rw [List.getElem_take]
  exact hc i (by omega)
theorem rplaces_any (a : Option Addr) (len cap : Nat) (cs : List Ck) (w : World) (hc : Cks w a len cap cs) (hs : sizes cs ≤ 10000000) (hl : len ≤ 2000) :
    Calls Try.prog 24 #[.slice a len cap] w (PlRet w len (plK cs len)) := by
  obtain ⟨i0, hi, hz0, hz1, hz2⟩ := info_parts info3
  have hlen := hc.1
  have hcap := hc.2.1
  have HLE := hidden (fun k : Nat => Nat.le_trans (sizes_le cs k) hs)
  have HC := hidden hc
  have hli : (len : Int) ≤ 2000 := by omega
  clear hc
  go_enter Try.func24, Try.ntmps24
  go_wp2
  go_loopw [3, 4] (fun v i w' => ∃ k : Nat, k ≤ len ∧ i = .int .i64 k ∧ w'.ownsRow w.heap.size 3 1 v k (intsV (plK cs k)) ∧ Below w.heap.size w w') (fun _ i _ => len - (intOf i).toNat)
  case atStart => exact ⟨0, by omega, rfl, World.ownsRow_nil _ _ _ _, Below.refl _ _⟩
  case round =>
    obtain ⟨k, hk, rfl, hown, hbl⟩ := hrel
    have HO1 := hidden hown
    have hs1 := hbl.size
    clear hown
    by_cases hlt : k < len
    · have hlt2 : (k : Int) < (len : Int) := by omega
      have hk0 : (0 : Int) ≤ (k : Int) := by omega
      have hkcap : (k : Int) ≤ (cap : Int) := by omega
      obtain ⟨b, off, rfl, -⟩ := HC.out.at (by omega)
      have hsp := hidden (plK_snoc cs k)
      have hls := HLE.out k
      have HLn := hidden (rlen_any (some ⟨b, off, none⟩) k cap (cs.take k) wr ((HC.out.cut (by omega) k hk).later hbl) (by omega) (by omega))
      generalize sizes (cs.take k) = p at *
      have hp2 : (p : Int) ≤ 10000000 := by omega
      have hp0 : (0 : Int) ≤ (p : Int) := by omega
      clear hls
      go_wp2_with (first | (go_at_call 41; refine HLn.out.mono ?_; rintro e w2 ⟨rfl, hb2⟩; refine Hid.out ?_) | fail)
      have hb3 := hbl.trans (hb2.mono hs1)
      have hs2 := hb3.size
      have HO2 := hidden ((own_later HO1.out hb2).alloc (.cells #[.int .i64 (12 + (p : Int))] 3))
      have HN := hidden (one_new_at w2 (.int .i64 (12 + (p : Int))) 3 w2.heap.size rfl)
      have HB4 := hidden (hb3.alloc hs2 (.cells #[.int .i64 (12 + (p : Int))] 3))
      clear HLn HO1 hb2 hb3
      refine hidden ?_
      go_wp2_with (at_builtin; refine wpList_append_own _ rfl (.tmp 11) (.tmp 17) 53 rfl w.heap.size 3 i0 (.int .i64 0) 1 8 Try.underlying53 hi hz0 hz1 hz2 rfl (by decide) _ _ _ rfl HO2.out ⟨w2.heap.size, 0, none⟩ 1 1 [.int .i64 (12 + (p : Int))] rfl rfl HN.out (by intro u hu; simp at hu; subst hu; rfl) (by unfold maxLen; omega) (by omega) (by simp; omega) ?_; intro v3 w5 hown3 hgrow3 hiff3; clear hiff3)
      have hb5 : Below w.heap.size w w5 := HB4.out.grown hgrow3 (by simp; omega) (fun j hj => (HO2.out.lt j hj).1)
      go_roundw
      case rel =>
        refine ⟨k + 1, by omega, by go_num, ?_, hb5⟩
        rw [hsp.out]
        unfold intsV at hown3 ⊢
        rw [List.map_append]
        rw [show ((12 + p : Nat) : Int) = 12 + (p : Int) by omega]
        exact hown3
      case measure => simp [intOf]; omega
    · obtain rfl : k = len := by omega
      go_wp2
      go_ret
      exact ⟨u3, rfl, HO1.out, hbl⟩
end Go.Proofs.Ytedihackifchcaa
