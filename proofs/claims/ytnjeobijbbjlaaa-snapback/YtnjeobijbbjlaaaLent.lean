/- Contracts of the document's Lent, Kept and Same (package grottoref01): bytes in new memory with a mark behind them; whether they and the mark are as they were; whether two lists of bytes are alike. -/
import Derived.Test.YtnjeobijbbjlaaaBytes2
import Derived.Laws.BytesArg
import Derived.Lib.SmallJoins
namespace Go.Proofs.Ytnjeobijbbjlaaa
open Go.RowKit
set_option maxHeartbeats 1000000

theorem cellLater {w wx : World} {a : Addr} {v : Value} (hb : Below w.heap.size w wx) (h : w.cell? a = some v) : wx.cell? a = some v := (hb.cell (World.block_lt_of_cell? _ _ h)).trans h
theorem plain_add (b off i : Nat) : (⟨b, off, none⟩ : Addr).add i = ⟨b, off + i, none⟩ := by unfold Addr.add; split <;> simp_all
/-- a slice of bytes that reads as zs -/
def Reads (w : World) (a : Option Addr) (len cap : Nat) (zs : List Int) : Prop :=
  zs.length = len ∧ len ≤ cap ∧ ((a = none ∧ len = 0 ∧ cap = 0) ∨ ∃ x, a = some x ∧ ∀ i, i < len → w.cell? (x.add i) = some (.int .u8 (zs.getD i 0)))
theorem Reads.news {w : World} {x : Addr} {len cap : Nat} {zs : List Int} (h : Reads w (some x) len cap zs) : ∀ j u, (bytesV zs)[j]? = some u → w.cell? (x.add j) = some u := by
  intro j u hj
  obtain ⟨hl, _, h⟩ := h
  rcases h with ⟨h, _⟩ | ⟨y, hy, hc⟩
  · cases h
  · cases hy
    have hlt : j < zs.length := by
      have := (List.getElem?_eq_some_iff.1 hj).1
      simpa [bytesV] using this
    rw [bytesV_at zs j hlt] at hj
    cases hj
    exact hc j (by omega)
set_option maxHeartbeats 400000 in
theorem lent_some (x : Addr) (len cap : Nat) (zs : List Int) (w : World) (hr : Reads w (some x) len cap zs) (hlen : len ≤ 1000000) :
    Calls Try.prog 8 #[.slice (some x) len cap] w fun e w' => ∃ g c2, e = .returned (.slice (some ⟨g, 0, none⟩) len c2) ∧ len + 1 ≤ c2 ∧ w.heap.size ≤ g ∧ Below w.heap.size w w' ∧
      ∀ i, i < len + 1 → w'.cell? ⟨g, 0 + i, none⟩ = some (.int .u8 ((zs ++ [77]).getD i 0)) := by
  obtain ⟨i0, hi, hz0, hz1, hz2⟩ := info_parts info8
  have hzl := hr.1
  have HN := hidden hr.news
  have hb0 : Below w.heap.size w (w.alloc (.cells #[] 5)) := (Below.refl _ _).alloc (Nat.le_refl _) _
  have HO := hidden (World.ownsRow_made (base := w.heap.size) (e := 5) (size := 1) w #[] 0 (Nat.le_refl _) (Nat.zero_le _) (by simp))
  have HN1 : Hid (∀ j u, (bytesV zs)[j]? = some u → (w.alloc (.cells #[] 5)).cell? (x.add j) = some u) := hidden fun j u h => cellLater hb0 (HN.out j u h)
  clear HN hr
  go_enter Try.func8, Try.ntmps8
  go_wp2_with (at_builtin; refine wpList_append_own _ rfl (.tmp 4) (.tmp 5) 22 rfl w.heap.size 5 i0 (.int .u8 0) 1 1 Try.underlying22 hi hz0 hz1 hz2 rfl (by decide) _ _ _ rfl HO.out x len cap (bytesV zs) rfl (by simp [bytesV, hzl]) HN1.out (bytesV_one zs) (by unfold maxLen; omega) (by omega) (by simp) ?_; intro v1 w1 hown1 hgrow1 hiff1; clear hiff1; refine Hid.out ?_)
  have hb1 : Below w.heap.size w w1 := hb0.grown hgrow1 (by simp) (by intro k hk; have e : some w.heap.size = some k := hk; simp at e; omega)
  simp only [Nat.zero_add, List.nil_append] at hown1
  have hs1 := hb1.size
  have HO1 := hidden (hown1.alloc (.cells #[.int .u8 77] 5))
  have HN2 := hidden (new_cell w1 [77] (by unfold maxLen; simp))
  have hb2 : Below w.heap.size w (w1.alloc (.cells #[.int .u8 77] 5)) := hb1.alloc hs1 _
  have hlt1 := hown1.lt
  have HL := hidden hlt1
  clear hlt1 hown1 hgrow1 HO HN1 hb0
  refine hidden ?_
  go_wp2_with (at_builtin; refine wpList_append_own _ rfl (.tmp 7) (.tmp 8) 22 rfl w.heap.size 5 i0 (.int .u8 0) 1 1 Try.underlying22 hi hz0 hz1 hz2 rfl (by decide) _ _ _ rfl HO1.out ⟨w1.heap.size, 0, none⟩ 1 1 (bytesV [77]) rfl rfl HN2.out (bytesV_one _) (by unfold maxLen; omega) (by omega) (by simp; omega) ?_; intro v2 w2 hown2 hgrow2 hiff2; clear hiff2; refine Hid.out ?_)
  have hb3 : Below w.heap.size w w2 := hb2.grown hgrow2 (by simp; omega) (by intro k hk; exact (HL.out k hk).1)
  rw [bytesV_append] at hown2
  obtain ⟨g, c2, rfl, hcap, hg⟩ := owned_shape hown2 (by omega)
  have HC := hidden (owned_cells hown2)
  clear hown2 hgrow2 HO1 HN2 hb2 hb1 HL
  refine hidden ?_
  go_wp2
  go_ret
  exact ⟨g, c2, rfl, hcap, hg, hb3, HC.out⟩
theorem lent_nil (w : World) :
    Calls Try.prog 8 #[.slice none 0 0] w fun e w' => ∃ g c2, e = .returned (.slice (some ⟨g, 0, none⟩) 0 c2) ∧ 0 + 1 ≤ c2 ∧ w.heap.size ≤ g ∧ Below w.heap.size w w' ∧
      ∀ i, i < 0 + 1 → w'.cell? ⟨g, 0 + i, none⟩ = some (.int .u8 ((([] : List Int) ++ [77]).getD i 0)) := by
  obtain ⟨i0, hi, hz0, hz1, hz2⟩ := info_parts info8
  have hb0 : Below w.heap.size w (w.alloc (.cells #[] 5)) := (Below.refl _ _).alloc (Nat.le_refl _) _
  have HO := hidden (World.ownsRow_made (base := w.heap.size) (e := 5) (size := 1) w #[] 0 (Nat.le_refl _) (Nat.zero_le _) (by simp))
  have HO1 := hidden (HO.out.alloc (.cells #[.int .u8 77] 5))
  have HN2 := hidden (new_cell_at (w.alloc (.cells #[] 5)) [77] (by unfold maxLen; simp) (w.heap.size + 1) (by simp))
  have hb2 := hidden (hb0.alloc (by simp) (.cells #[.int .u8 77] 5))
  clear hb0
  go_enter Try.func8, Try.ntmps8
  go_wp2_with (first | (at_builtin; refine wpList_append_own_none rfl (.tmp 4) (.tmp 5) 22 rfl w.heap.size 5 i0 1 Try.underlying22 hi _ _ _ rfl HO.out rfl ?_) | (at_builtin; refine wpList_append_own _ rfl (.tmp 7) (.tmp 8) 22 rfl w.heap.size 5 i0 (.int .u8 0) 1 1 Try.underlying22 hi hz0 hz1 hz2 rfl (by decide) _ _ _ rfl HO1.out ⟨w.heap.size + 1, 0, none⟩ 1 1 (bytesV [77]) rfl rfl HN2.out (bytesV_one _) (by unfold maxLen; omega) (by omega) (by simp; omega) ?_; intro v2 w2 hown2 hgrow2 hiff2; clear hiff2; refine Hid.out ?_))
  have hb3 : Below w.heap.size w w2 := hb2.out.grown hgrow2 (by simp; omega) (by intro k hk; have e : some w.heap.size = some k := hk; simp at e; omega)
  have hown3 : w2.ownsRow w.heap.size 5 1 v2 (0 + 1) (bytesV (([] : List Int) ++ [77])) := hown2
  obtain ⟨g, c2, rfl, hcap, hg⟩ := owned_shape hown3 (by omega)
  have HC := hidden (owned_cells hown3)
  clear hown2 hown3 hgrow2 HO1 HN2 hb2 HO
  refine hidden ?_
  go_wp2
  go_ret
  exact ⟨g, c2, rfl, hcap, hg, hb3, HC.out⟩
theorem lent_any (a : Option Addr) (len cap : Nat) (zs : List Int) (w : World) (hr : Reads w a len cap zs) (hlen : len ≤ 1000000) :
    Calls Try.prog 8 #[.slice a len cap] w fun e w' => ∃ g c2, e = .returned (.slice (some ⟨g, 0, none⟩) len c2) ∧ len + 1 ≤ c2 ∧ w.heap.size ≤ g ∧ Below w.heap.size w w' ∧
      ∀ i, i < len + 1 → w'.cell? ⟨g, 0 + i, none⟩ = some (.int .u8 ((zs ++ [77]).getD i 0)) := by
  cases a with
  | some x => exact lent_some x len cap zs w hr hlen
  | none =>
    obtain ⟨hl, _, h⟩ := hr
    rcases h with ⟨_, rfl, rfl⟩ | ⟨y, hy, _⟩
    · obtain rfl := List.eq_nil_of_length_eq_zero hl
      exact lent_nil w
    · cases hy
/-! ### bytes as a text -/
def strB (zs : List Int) : List UInt8 := zs.map fun z => UInt8.ofNat z.toNat
def OkB (zs : List Int) : Prop := ∀ c ∈ zs, 0 ≤ c ∧ c ≤ 255
theorem strB_at (zs : List Int) (hb : OkB zs) (j : Nat) (hj : j < (strB zs).length) : ((strB zs)[j].toNat : Int) = zs.getD j 0 := by
  have hj2 : j < zs.length := by simpa [strB] using hj
  have hc := hb zs[j] (List.getElem_mem hj2)
  have e : zs.getD j 0 = zs[j] := by simp [hj2]
  rw [e]
  simp only [strB, List.getElem_map]
  rw [UInt8.toNat_ofNat']
  omega
theorem conv_reads (w : World) (a : Option Addr) (len cap : Nat) (zs : List Int) (hb : OkB zs) (hr : Reads w a len cap zs) :
    (convert 22 9 (.slice a len cap)).run Try.prog w = .ok (.string ⟨(strB zs).toArray⟩) w := by
  obtain ⟨hl, _, h⟩ := hr
  rcases h with ⟨rfl, rfl, rfl⟩ | ⟨x, rfl, hc⟩
  · obtain rfl := List.eq_nil_of_length_eq_zero hl
    exact run_convert_bytes_nil w 22 5 Try.underlying22 Try.underlying5 0 0 9 Try.underlying9
  · have hl2 : (strB zs).length = len := by simpa [strB] using hl
    have := run_convert_bytes_back (P := Try.prog) w 22 9 5 x cap (strB zs) Try.underlying22 Try.underlying5 Try.underlying9 (fun j hj => by
      rw [strB_at zs hb j hj]
      exact hc j (by omega))
    rw [hl2] at this
    exact this
theorem same_eq (a1 a2 : Option Addr) (l1 c1 l2 c2 : Nat) (zs : List Int) (w : World) (hb : OkB zs) (h1 : Reads w a1 l1 c1 zs) (h2 : Reads w a2 l2 c2 zs) :
    Calls Try.prog 10 #[.slice a1 l1 c1, .slice a2 l2 c2] w fun e w' => e = .returned (.bool true) ∧ w' = w := by
  have e1 := conv_reads w a1 l1 c1 zs hb h1
  have e2 := conv_reads w a2 l2 c2 zs hb h2
  clear h1 h2
  go_enter Try.func10, Try.ntmps10
  go_wp2
  go_ret
  exact ⟨rfl, rfl⟩
theorem kept_eq (g len c1 : Nat) (a2 : Option Addr) (c2 : Nat) (zs : List Int) (w : World) (hb : OkB zs) (hlen : len ≤ 1000000) (hc1 : len + 1 ≤ c1)
    (hc : ∀ i, i < len + 1 → w.cell? ⟨g, 0 + i, none⟩ = some (.int .u8 ((zs ++ [77]).getD i 0))) (h2 : Reads w a2 len c2 zs) :
    Calls Try.prog 12 #[.slice (some ⟨g, 0, none⟩) len c1, .slice a2 len c2] w fun e w' => e = .returned (.bool true) ∧ w' = w := by
  have hl := h2.1
  have h1 : Reads w (some ⟨g, 0, none⟩) len c1 zs := ⟨hl, by omega, .inr ⟨_, rfl, fun i hi => by
    have := hc i (by omega)
    have e : (zs ++ [77]).getD i 0 = zs.getD i 0 := by simp [List.getD_eq_getElem?_getD, List.getElem?_append_left (show i < zs.length by omega)]
    rw [e] at this
    rw [plain_add]
    exact this⟩⟩
  have hm : w.cell? ⟨g, len, none⟩ = some (.int .u8 77) := by
    have := hc len (by omega)
    have e : (zs ++ [77]).getD len 0 = 77 := by rw [← hl]; simp
    rw [e] at this
    simpa using this
  have e1 := conv_reads w _ len c1 zs hb h1
  have e2 := conv_reads w a2 len c2 zs hb h2
  clear h1 h2 hc
  go_enter Try.func12, Try.ntmps12
  go_wp2
  go_ret
  exact ⟨rfl, rfl⟩
end Go.Proofs.Ytnjeobijbbjlaaa
