/- Contracts of word.Put and word.Be in one form for every number of bytes: the list of bytes that a word is, and the word that bytes at a place say. -/
import Derived.Test.YtpgppdkbkkljnaaBytes
import Derived.Laws.OwnMore
import Derived.Laws.AppendOwnNone
import Derived.OwnWalk
namespace Go.Proofs.Ytpgppdkbkkljnaa
open Go.RowKit
set_option maxHeartbeats 1000000

/-- the bytes that the lowest n bytes of x are -/
def putL (x n : Int) : List Int :=
  if n = 1 then [x % 256] else if n = 2 then [x / 256 % 256, x % 256] else if n = 4 then [x / 16777216 % 256, x / 65536 % 256, x / 256 % 256, x % 256] else []
/-- the word that n bytes say at place k -/
def beV (zs : List Int) (k : Nat) (n : Int) : Int :=
  if n = 1 then zs.getD k 0 else if n = 2 then 256 * zs.getD k 0 + zs.getD (k + 1) 0
  else 16777216 * zs.getD k 0 + 65536 * zs.getD (k + 1) 0 + 256 * zs.getD (k + 2) 0 + zs.getD (k + 3) 0
def IsW (n : Int) : Prop := n = 1 ∨ n = 2 ∨ n = 4
def bytesV (zs : List Int) : List Value := zs.map (Value.int .u8)
theorem info8 : (Try.prog.info? 5).map (fun i => (i.zero, i.size, i.bytes)) = some (some (.int .u8 0), 1, 1) := by kernel_rfl
theorem putL_len (x n : Int) (h : IsW n) : ((putL x n).length : Int) = n := by
  rcases h with rfl | rfl | rfl <;> rfl
theorem putL_bd (x n : Int) : ∀ c ∈ putL x n, 0 ≤ c ∧ c ≤ 255 := by
  intro c hc
  unfold putL at hc
  split at hc
  · simp at hc; omega
  · split at hc
    · simp at hc; omega
    · split at hc
      · simp at hc; omega
      · cases hc
theorem bytesV_one (zs : List Int) : ∀ u ∈ bytesV zs, u.oneCell' = true := by
  intro u hu
  obtain ⟨z, _, rfl⟩ := List.mem_map.1 hu
  rfl
/-- a block that the call made owns its cells -/
theorem owns_new (w : World) (base : Nat) (zs : List Int) (hb : base ≤ w.heap.size) (hm : zs.length ≤ maxLen) :
    (w.alloc (.cells (bytesV zs).toArray 5)).ownsRow base 5 1 (.slice (some ⟨w.heap.size, 0, none⟩) zs.length zs.length) zs.length (bytesV zs) := by
  refine ⟨by simp [bytesV], .inr ⟨w.heap.size, zs.length, (bytesV zs).toArray, rfl, hb, ?_, Nat.le_refl _, hm, by simp [bytesV], by rw [Nat.mul_one, List.take_of_length_le (by simp [bytesV])]⟩⟩
  exact heap_alloc_new _ _
theorem new_cell (w : World) (zs : List Int) (hm : zs.length ≤ maxLen) (j : Nat) (u : Value) (h : (bytesV zs)[j]? = some u) :
    (w.alloc (.cells (bytesV zs).toArray 5)).cell? ((⟨w.heap.size, 0, none⟩ : Addr).add j) = some u :=
  (owns_new w 0 zs (Nat.zero_le _) hm).cells (g := w.heap.size) rfl j u h
theorem new_cell_at (w : World) (zs : List Int) (hm : zs.length ≤ maxLen) (g : Nat) (hg : g = w.heap.size) (j : Nat) (u : Value) (h : (bytesV zs)[j]? = some u) :
    (w.alloc (.cells (bytesV zs).toArray 5)).cell? ((⟨g, 0, none⟩ : Addr).add j) = some u := by
  subst hg; exact new_cell w zs hm j u h
theorem bytesV_at (zs : List Int) (j : Nat) (h : j < zs.length) : (bytesV zs)[j]? = some (.int .u8 (zs.getD j 0)) := by
  simp [bytesV, h]
/-- an owned row's cells, one by one -/
theorem owned_cells {w : World} {base g n cap : Nat} {zs : List Int} (h : w.ownsRow base 5 1 (.slice (some ⟨g, 0, none⟩) n cap) n (bytesV zs)) (i : Nat) (hi : i < n) :
    w.cell? ⟨g, 0 + i, none⟩ = some (.int .u8 (zs.getD i 0)) := by
  have hl : (bytesV zs).length = n * 1 := h.1
  have hl2 : zs.length = n := by simpa [bytesV] using hl
  rw [Nat.zero_add, h.cellAt i (by omega), bytesV_at zs i (by omega)]
theorem put_any (x n : Int) (w : World) (hn : IsW n) :
    Calls Try.prog 30 #[.int .u32 x, .int .i64 n] w fun e w' => e = .returned (.slice (some ⟨w.heap.size, 0, none⟩) (putL x n).length (putL x n).length) ∧ w' = w.alloc (.cells (bytesV (putL x n)).toArray 5) := by
  rcases hn with rfl | rfl | rfl
  · exact put_1 x w
  · exact put_2 x w
  · exact put_4 x w
theorem putn_1 (x : Int) (w : World) :
    Calls Try.prog 30 #[.int .u32 x, .int .i64 1] w fun e w' => e = .returned (.slice (some ⟨w.heap.size, 0, none⟩) 1 1) ∧ w' = w.alloc (.cells (bytesV (putL x 1)).toArray 5) := put_1 x w
theorem putn_2 (x : Int) (w : World) :
    Calls Try.prog 30 #[.int .u32 x, .int .i64 2] w fun e w' => e = .returned (.slice (some ⟨w.heap.size, 0, none⟩) 2 2) ∧ w' = w.alloc (.cells (bytesV (putL x 2)).toArray 5) := put_2 x w
theorem putn_4 (x : Int) (w : World) :
    Calls Try.prog 30 #[.int .u32 x, .int .i64 4] w fun e w' => e = .returned (.slice (some ⟨w.heap.size, 0, none⟩) 4 4) ∧ w' = w.alloc (.cells (bytesV (putL x 4)).toArray 5) := put_4 x w
theorem owned_shape {w : World} {base n : Nat} {v : Value} {xs : List Value} (h : w.ownsRow base 5 1 v n xs) (hn : 0 < n) : ∃ g cap, v = .slice (some ⟨g, 0, none⟩) n cap ∧ n ≤ cap ∧ base ≤ g := by
  rcases h.2 with ⟨_, h0⟩ | ⟨g, cap, cur, rfl, hbg, _, hnc, _⟩
  · omega
  · exact ⟨g, cap, rfl, hnc, hbg⟩
theorem bytesV_append (a b : List Int) : bytesV a ++ bytesV b = bytesV (a ++ b) := by simp [bytesV]
theorem append_bd (a b : List Int) (ha : ∀ c ∈ a, 0 ≤ c ∧ c ≤ 255) (hb : ∀ c ∈ b, 0 ≤ c ∧ c ≤ 255) : ∀ c ∈ a ++ b, 0 ≤ c ∧ c ≤ 255 := by
  intro c hc
  rcases List.mem_append.1 hc with h | h
  · exact ha c h
  · exact hb c h
theorem be_any (blk off len cap : Nat) (zs : List Int) (at_ n : Int) (w : World) (hn : IsW n) (h0 : 0 ≤ at_) (h1 : at_ + n ≤ (len : Int)) (hl : (len : Int) ≤ 9223372036854775807) (hcap : len ≤ cap)
    (hc : ∀ i : Nat, i < len → w.cell? ⟨blk, off + i, none⟩ = some (.int .u8 (zs.getD i 0))) (hb : ∀ c ∈ zs, 0 ≤ c ∧ c ≤ 255) :
    Calls Try.prog 32 #[.slice (some ⟨blk, off, none⟩) len cap, .int .i64 at_, .int .i64 n] w fun e w' => e = .returned (.tuple #[.int .u32 (beV zs at_.toNat n), .int .i64 0]) ∧ w' = w := by
  have bd : ∀ i, 0 ≤ zs.getD i 0 ∧ zs.getD i 0 ≤ 255 := fun i => by
    rw [List.getD_eq_getElem?_getD]
    cases h : zs[i]? with
    | none => simp
    | some c => exact hb c (List.mem_of_getElem? h)
  rcases hn with rfl | rfl | rfl
  · exact be_1 blk off len cap _ at_ w h0 h1 hl hcap (hc _ (by omega)) (bd _).1 (bd _).2
  · exact be_2 blk off len cap _ _ at_ w h0 h1 hl hcap (hc _ (by omega)) (hc (at_.toNat + 1) (by omega)) (bd _).1 (bd _).2 (bd _).1 (bd _).2
  · exact be_4 blk off len cap _ _ _ _ at_ w h0 h1 hl hcap (hc _ (by omega)) (hc (at_.toNat + 1) (by omega)) (hc (at_.toNat + 2) (by omega)) (hc (at_.toNat + 3) (by omega)) (bd _).1 (bd _).2 (bd _).1 (bd _).2 (bd _).1 (bd _).2 (bd _).1 (bd _).2
end Go.Proofs.Ytpgppdkbkkljnaa
