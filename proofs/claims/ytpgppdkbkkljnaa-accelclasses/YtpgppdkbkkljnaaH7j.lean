/- Contract of package header's Make: the game of a header, or why none. -/
import Derived.Test.YtpgppdkbkkljnaaH7i
import Derived.Laws.CopyOwn
namespace Go.Proofs.Ytpgppdkbkkljnaa
open Go.RowKit
set_option maxHeartbeats 1000000
set_option maxRecDepth 100000
set_option linter.unusedVariables false

theorem own_later {w w' : World} {B e size n : Nat} {v : Value} {xs : List Value} (h : w.ownsRow B e size v n xs) (hb : Below w.heap.size w w') : w'.ownsRow B e size v n xs := by
  refine ⟨h.1, ?_⟩
  rcases h.2 with h2 | ⟨g, cap, cur, h1, h2, h3, h4⟩
  · exact .inl h2
  · exact .inr ⟨g, cap, cur, h1, h2, (hb.block g (Array.getElem?_eq_some_iff.1 h3).1).trans h3, h4⟩
theorem own_base {w : World} {B B' e size n : Nat} {v : Value} {xs : List Value} (h : w.ownsRow B' e size v n xs) (hB : B ≤ B') : w.ownsRow B e size v n xs := by
  refine ⟨h.1, ?_⟩
  rcases h.2 with h2 | ⟨g, cap, cur, h1, h2, h3, h4⟩
  · exact .inl h2
  · exact .inr ⟨g, cap, cur, h1, Nat.le_trans hB h2, h3, h4⟩
theorem own_bs {w : World} {B g n cap : Nat} {zs : List Int} (h : w.ownsRow B 5 1 (.slice (some ⟨g, 0, none⟩) n cap) n (bytesV zs)) : Bs w g 0 n zs := by
  have hl : (bytesV zs).length = n * 1 := h.1
  exact ⟨by simpa [bytesV] using hl, fun i hi => owned_cells h i hi⟩
theorem bytesV_splice (zs ds : List Int) (off : Nat) : bytesV (splice zs off ds) = splice (bytesV zs) off (bytesV ds) := by
  simp [bytesV, splice, List.map_append, List.map_take, List.map_drop]
/-- an owned row over which bytes are laid -/
theorem own_splice {w : World} {B g n cap : Nat} {zs : List Int} (h : w.ownsRow B 5 1 (.slice (some ⟨g, 0, none⟩) n cap) n (bytesV zs)) :
    ∃ cur : List Value, w.heap[g]? = some (.cells cur.toArray 5 (0, 0)) ∧ n ≤ cur.length ∧ B ≤ g ∧ n ≤ cap ∧ cap ≤ maxLen ∧ ∀ (w' : World) (off : Nat) (ds : List Int), off + ds.length ≤ n → w'.heap[g]? = some (.cells (splice cur off (bytesV ds)).toArray 5 (0, 0)) →
      w'.ownsRow B 5 1 (.slice (some ⟨g, 0, none⟩) n cap) n (bytesV (splice zs off ds)) := by
  have hl : (bytesV zs).length = n * 1 := h.1
  have hzl : zs.length = n := by simpa [bytesV] using hl
  rcases h.2 with ⟨h2, _⟩ | ⟨g', cap', cur, h1, h2, h3, h4, h5, h6, h7⟩
  · cases h2
  · simp only [Value.slice.injEq, Option.some.injEq, Addr.mk.injEq, true_and, and_true] at h1
    obtain ⟨rfl, rfl⟩ := h1
    refine ⟨cur.toList, by simpa using h3, by simp; omega, h2, h4, h5, fun w' off ds ho hw => ?_⟩
    have hcl : cur.toList.length = cap := by simp; omega
    have hbl : (bytesV ds).length = ds.length := by simp [bytesV]
    have hsl : (splice cur.toList off (bytesV ds)).length = cap := by rw [length_splice _ _ _ (by omega)]; exact hcl
    refine ⟨by rw [bytesV_splice, length_splice _ _ _ (by omega)]; exact hl, .inr ⟨g, cap, _, rfl, h2, hw, h4, h5, by simpa using hsl, ?_⟩⟩
    rw [bytesV_splice, ← h7, Nat.mul_one]
    simp only [splice]
    rw [List.take_append, List.take_take, List.take_take, List.length_take, List.take_append, List.drop_take, hcl, hbl]
    rw [show min n off = off by omega, show min off n = off by omega, show min off cap = off by omega, List.take_of_length_le (show (bytesV ds).length ≤ n - off by omega)]
    rw [show n - (off + ds.length) = n - off - ds.length by omega]
/-- a header's bytes ahead of its sum -/
def hd32 (h : Hd) : List Int := glul ++ putsL [h.v, h.ram, h.ext, h.en, h.st, h.start, h.tab]
theorem hdr_parts (h : Hd) : hdrL h = hd32 h ++ putL h.sum 4 := by
  unfold hdrL hd32 putsL
  simp [List.append_assoc]
theorem hd32_len (h : Hd) : (hd32 h).length = 32 := rfl
theorem put4_len (x : Int) : (putL x 4).length = 4 := rfl
theorem hdrL_len (h : Hd) : (hdrL h).length = 36 := rfl
/-- the game of a header and what stands behind it -/
def makeL (h : Hd) (zs : List Int) : List Int := hdrL { h with sum := sumV (hdrL h ++ zs) } ++ zs
theorem makeL_len (h : Hd) (zs : List Int) : (makeL h zs).length = 36 + zs.length := by
  unfold makeL; rw [List.length_append, hdrL_len]
theorem make_splice (h : Hd) (zs : List Int) (S : Int) : splice (hdrL h ++ zs) 32 (putL S 4) = hdrL { h with sum := S } ++ zs := by
  rw [hdr_parts, hdr_parts]
  unfold splice
  have e1 : (hd32 h ++ putL h.sum 4 ++ zs).take 32 = hd32 h := by rw [List.append_assoc]; exact List.take_left' (hd32_len h)
  have e2 : (hd32 h ++ putL h.sum 4 ++ zs).drop (32 + 4) = zs := List.drop_left' (by rw [List.length_append, hd32_len, put4_len])
  rw [put4_len, e1, e2, ← List.append_assoc]
  rfl
theorem okb_app {a b : List Int} (ha : OkB a) (hb : OkB b) : OkB (a ++ b) := append_bd a b ha hb
theorem hdrL_ok (h : Hd) : OkB (hdrL h) := by
  intro c hc
  unfold hdrL at hc
  rcases List.mem_append.1 hc with hc | hc
  · exact glul_ok 4 c (by simpa [glul] using hc)
  · obtain ⟨x, _, hx⟩ := List.mem_flatMap.1 hc
    exact putL_bd x 4 c hx
theorem makeL_ok (h : Hd) (zs : List Int) (hz : OkB zs) : OkB (makeL h zs) := okb_app (hdrL_ok _) hz
end Go.Proofs.Ytpgppdkbkkljnaa
