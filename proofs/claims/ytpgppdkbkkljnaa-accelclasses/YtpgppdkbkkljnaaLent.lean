/- Contracts of the document's Lent, Kept and Same (package grottoref01): bytes in new memory with a mark behind them; whether they and the mark are as they were; whether two lists of bytes are alike. -/
import Derived.Test.YtpgppdkbkkljnaaBytes2
import Derived.Laws.BytesArg
import Derived.Lib.SmallJoins
namespace Go.Proofs.Ytpgppdkbkkljnaa
open Go.RowKit
set_option maxHeartbeats 1000000

theorem cellLater {w wx : World} {a : Addr} {v : Value} (hb : Below w.heap.size w wx) (h : w.cell? a = some v) : wx.cell? a = some v := (hb.cell (World.block_lt_of_cell? _ _ h)).trans h
theorem plain_add (b off i : Nat) : (⟨b, off, none⟩ : Addr).add i = ⟨b, off + i, none⟩ := by unfold Addr.add; split <;> simp_all
/-- a slice of bytes that reads as zs -/
def Reads (w : World) (a : Option Addr) (len cap : Nat) (zs : List Int) : Prop :=
  zs.length = len ∧ len ≤ cap ∧ ((a = none ∧ len = 0 ∧ cap = 0) ∨ ∃ x, a = some x ∧ ∀ i, i < len → w.cell? (x.add i) = some (.int .u8 (zs.getD i 0)))
theorem Reads.news {w : World} {x : Addr} {len cap : Nat} {zs : List Int} (h : Reads w (some x) len cap zs) : ∀ j u, (bytesV zs)[j]? = some u → w.cell? (x.add j) = some u := by
  intro j u hj
  obtain ⟨hl, _, h⟩ := h
  rcases h with ⟨h, _⟩ | ⟨y, hy, hc⟩
  · cases h
  · cases hy
    have hlt : j < zs.length := by
      have := (List.getElem?_eq_some_iff.1 hj).1
      simpa [bytesV] using this
    rw [bytesV_at zs j hlt] at hj
    cases hj
    exact hc j (by omega)
def strB (zs : List Int) : List UInt8 := zs.map fun z => UInt8.ofNat z.toNat
def OkB (zs : List Int) : Prop := ∀ c ∈ zs, 0 ≤ c ∧ c ≤ 255
theorem strB_at (zs : List Int) (hb : OkB zs) (j : Nat) (hj : j < (strB zs).length) : ((strB zs)[j].toNat : Int) = zs.getD j 0 := by
  have hj2 : j < zs.length := by simpa [strB] using hj
  have hc := hb zs[j] (List.getElem_mem hj2)
  have e : zs.getD j 0 = zs[j] := by simp [hj2]
  rw [e]
  simp only [strB, List.getElem_map]
  rw [UInt8.toNat_ofNat']
  omega
theorem conv_reads (w : World) (a : Option Addr) (len cap : Nat) (zs : List Int) (hb : OkB zs) (hr : Reads w a len cap zs) :
    (convert 50 9 (.slice a len cap)).run Try.prog w = .ok (.string ⟨(strB zs).toArray⟩) w := by
  obtain ⟨hl, _, h⟩ := hr
  rcases h with ⟨rfl, rfl, rfl⟩ | ⟨x, rfl, hc⟩
  · obtain rfl := List.eq_nil_of_length_eq_zero hl
    exact run_convert_bytes_nil w 50 5 Try.underlying50 Try.underlying5 0 0 9 Try.underlying9
  · have hl2 : (strB zs).length = len := by simpa [strB] using hl
    have := run_convert_bytes_back (P := Try.prog) w 50 9 5 x cap (strB zs) Try.underlying50 Try.underlying5 Try.underlying9 (fun j hj => by
      rw [strB_at zs hb j hj]
      exact hc j (by omega))
    rw [hl2] at this
    exact this
end Go.Proofs.Ytpgppdkbkkljnaa
