/- Contracts of iff.chunkBytes, iff.formBytes and iff.allIds: the room that chunks take, and whether all have letters that a form may hold. -/
import Derived.Test.YtedihackifchcaaJ5a
namespace Go.Proofs.Ytedihackifchcaa
open Go.RowKit
set_option maxHeartbeats 1000000
set_option linter.unusedVariables false

/-- a chunk as it lies in memory: its letters, where its data lie, and these -/
structure Ck where
  id : ByteArray
  a : Option Addr
  l : Nat
  c : Nat
  d : List Int
def ckSize (k : Ck) : Nat := 8 + k.l + k.l % 2
def sizes (cs : List Ck) : Nat := (cs.map ckSize).sum
/-- a slice of chunks that reads as cs -/
def Cks (w : World) (a : Option Addr) (len cap : Nat) (cs : List Ck) : Prop :=
  cs.length = len ∧ len ≤ cap ∧ (len = 0 ∨ ∃ b off, a = some ⟨b, off, none⟩ ∧ ∀ i (h : i < cs.length), w.cell? ⟨b, off + i * 2, none⟩ = some (.string cs[i].id) ∧ w.cell? ⟨b, off + i * 2 + 1, none⟩ = some (.slice cs[i].a cs[i].l cs[i].c)) ∧
  ∀ k ∈ cs, Reads w k.a k.l k.c k.d ∧ OkB k.d
theorem Reads.later {w w' : World} {a : Option Addr} {len cap : Nat} {zs : List Int} (h : Reads w a len cap zs) (hb : Below w.heap.size w w') : Reads w' a len cap zs := by
  obtain ⟨h1, h2, h3⟩ := h
  refine ⟨h1, h2, ?_⟩
  rcases h3 with h | ⟨x, hx, hc⟩
  · exact .inl h
  · exact .inr ⟨x, hx, fun i hi => cellLater hb (hc i hi)⟩
theorem Cks.later {w w' : World} {a : Option Addr} {len cap : Nat} {cs : List Ck} (h : Cks w a len cap cs) (hb : Below w.heap.size w w') : Cks w' a len cap cs := by
  obtain ⟨h1, h2, h3, h4⟩ := h
  refine ⟨h1, h2, ?_, fun k hk => ⟨(h4 k hk).1.later hb, (h4 k hk).2⟩⟩
  rcases h3 with h | ⟨b, off, hx, hc⟩
  · exact .inl h
  · exact .inr ⟨b, off, hx, fun i hi => ⟨cellLater hb (hc i hi).1, cellLater hb (hc i hi).2⟩⟩
theorem int_eq {k : IntKind} {a b : Int} (h : a = b) : Value.int k a = .int k b := by rw [h]
theorem chunkBytes_any (s : ByteArray) (a : Option Addr) (l c : Nat) (w : World) (h : l ≤ 1152921504606846976) :
    Calls Try.prog 52 #[.agg #[.string s, .slice a l c]] w fun e w' => e = .returned (.int .i64 ((8 + l + l % 2 : Nat) : Int)) ∧ Below w.heap.size w w' := by
  have hl : (l : Int) ≤ 1152921504606846976 := by omega
  have h0 : (0 : Int) ≤ (l : Int) := by omega
  have hr : (l : Int).tmod 2 = ((l % 2 : Nat) : Int) := by rw [Int.tmod_eq_emod_of_nonneg h0]; omega
  have hr2 : l % 2 ≤ 1 := by omega
  go_enter Try.func52, Try.ntmps52
  go_wp2
  go_ret
  refine ⟨?_, (Below.refl _ _).alloc (Nat.le_refl _) _⟩
  exact congrArg Ending.returned (int_eq (by omega))
theorem sizes_snoc (cs : List Ck) (k : Nat) (h : k < cs.length) : sizes (cs.take (k + 1)) = sizes (cs.take k) + ckSize cs[k] := by
  unfold sizes
  rw [List.take_succ_eq_append_getElem h, List.map_append, List.sum_append_nat]
  simp only [List.map_cons, List.map_nil, List.sum_cons, List.sum_nil, Nat.add_zero]
theorem sizes_le (cs : List Ck) (k : Nat) : sizes (cs.take k) ≤ sizes cs := by
  have : sizes cs = sizes (cs.take k) + sizes (cs.drop k) := by
    unfold sizes
    rw [← List.sum_append_nat, ← List.map_append, List.take_append_drop]
  omega
theorem formBytes_any (a : Option Addr) (len cap : Nat) (cs : List Ck) (w : World) (hc : Cks w a len cap cs) (hs : sizes cs ≤ 1000000) :
    Calls Try.prog 54 #[.slice a len cap] w fun e w' => e = .returned (.int .i64 ((12 + sizes cs : Nat) : Int)) ∧ Below w.heap.size w w' := by
  have hlen := hc.1
  have hcap := hc.2.1
  have hle : ∀ k : Nat, sizes (cs.take k) ≤ 1000000 := fun k => Nat.le_trans (sizes_le cs k) hs
  have hck : ∀ k (h : k < cs.length), cs[k].l ≤ 1000000 := fun k h => by
    have h1 := hle (k + 1)
    rw [sizes_snoc cs k h] at h1
    unfold ckSize at h1
    omega
  have HC := hidden hc
  have HLE := hidden hle
  have HCK := hidden hck
  have hl63 : (len : Int) ≤ 9223372036854775807 := by
    have : len ≤ sizes cs := by
      rw [← hlen]; unfold sizes
      clear HC HLE HCK hck hle hlen hs hc
      induction cs with
      | nil => simp
      | cons k cs ih => simp only [List.length_cons, List.map_cons, List.sum_cons]; unfold ckSize at *; omega
    omega
  clear hc hle hck
  go_enter Try.func54, Try.ntmps54
  go_wp2
  go_loopw [3, 8] (fun n i w' => ∃ k : Nat, k ≤ len ∧ i = .int .i64 k ∧ n = .int .i64 ((12 + sizes (cs.take k) : Nat) : Int) ∧ Below w.heap.size w w') (fun _ i _ => len - (intOf i).toNat)
  case atStart => exact ⟨0, by omega, rfl, rfl, Below.refl _ _⟩
  case round =>
    obtain ⟨k, hk, rfl, rfl, hbl⟩ := hrel
    have hs1 := hbl.size
    by_cases hlt : k < len
    · have hlt2 : (k : Int) < (len : Int) := by omega
      have hkc : k < cs.length := by omega
      obtain ⟨b, off, rfl, hcell⟩ : ∃ b off, a = some ⟨b, off, none⟩ ∧ ∀ i (h : i < cs.length), w.cell? ⟨b, off + i * 2, none⟩ = some (.string cs[i].id) ∧ w.cell? ⟨b, off + i * 2 + 1, none⟩ = some (.slice cs[i].a cs[i].l cs[i].c) := by
        rcases HC.out.2.2.1 with h | h
        · omega
        · exact h
      have c0 := cellLater hbl (hcell k hkc).1
      have c1 := cellLater hbl (hcell k hkc).2
      clear hcell
      have hsn := hidden (sizes_snoc cs k hkc)
      have hl := HCK.out k hkc
      have hls := HLE.out k
      go_wp2
      go_roundw
      case rel =>
        refine ⟨k + 1, by omega, by go_num, int_eq ?_, (hbl.alloc hs1 _).alloc (by simp; omega) _⟩
        rw [hsn.out]; unfold ckSize; omega
      case measure => simp [intOf]; omega
    · obtain rfl : k = len := by omega
      have hse : cs.take k = cs := List.take_of_length_le (by omega)
      go_wp2
      go_ret
      refine ⟨?_, hbl⟩
      rw [hse]; rfl
/-- all letters may stand in a form -/
def AllId (cs : List Ck) : Prop := ∀ k ∈ cs, IsId k.id
theorem allIds_any (a : Option Addr) (len cap : Nat) (cs : List Ck) (w : World) (hc : Cks w a len cap cs) (hm : len ≤ 1000000) :
    Calls Try.prog 53 #[.slice a len cap] w fun e w' => ((AllId cs ∧ e = .returned (.bool true)) ∨ (¬ AllId cs ∧ e = .returned (.bool false))) ∧ Below w.heap.size w w' := by
  have hlen := hc.1
  have hcap := hc.2.1
  have HC := hidden hc
  clear hc
  go_enter Try.func53, Try.ntmps53
  go_wp2
  go_loopw [7] (fun i w' => ∃ k : Nat, k ≤ len ∧ i = .int .i64 k ∧ (∀ j (h : j < cs.length), j < k → IsId cs[j].id) ∧ Below w.heap.size w w') (fun i _ => len - (intOf i).toNat)
  case atStart => exact ⟨0, by omega, rfl, fun j _ h => by omega, Below.refl _ _⟩
  case round =>
    obtain ⟨k, hk, rfl, hd, hbl⟩ := hrel
    have HD := hidden hd
    clear hd
    have hs1 := hbl.size
    by_cases hlt : k < len
    · have hlt2 : (k : Int) < (len : Int) := by omega
      have hkc : k < cs.length := by omega
      obtain ⟨b, off, rfl, hcell⟩ : ∃ b off, a = some ⟨b, off, none⟩ ∧ ∀ i (h : i < cs.length), w.cell? ⟨b, off + i * 2, none⟩ = some (.string cs[i].id) ∧ w.cell? ⟨b, off + i * 2 + 1, none⟩ = some (.slice cs[i].a cs[i].l cs[i].c) := by
        rcases HC.out.2.2.1 with h | h
        · omega
        · exact h
      have c0 := cellLater hbl (hcell k hkc).1
      have c1 := cellLater hbl (hcell k hkc).2
      clear hcell
      by_cases hid : IsId cs[k].id
      · have HT : Hid (∀ w, Calls Try.prog 51 #[.string cs[k].id] w fun e w' => e = .returned (.bool true) ∧ w' = w) := hidden fun w => id_yes _ w hid
        go_wp2_with (go_at_call 51; refine (HT.out _).mono ?_; rintro e w9 ⟨rfl, hw⟩; obtain rfl := hw.symm)
        go_roundw
        case rel =>
          refine ⟨k + 1, by omega, by go_num, fun j hj hjk => ?_, hbl.alloc hs1 _⟩
          by_cases e : j = k
          · subst e; exact hid
          · exact HD.out j hj (by omega)
        case measure => simp [intOf]; omega
      · have HT : Hid (∀ w, Calls Try.prog 51 #[.string cs[k].id] w fun e w' => e = .returned (.bool false) ∧ w' = w) := hidden fun w => id_no _ w hid
        have HNo : Hid (¬ AllId cs) := hidden fun h => hid (h _ (List.getElem_mem hkc))
        go_wp2_with (go_at_call 51; refine (HT.out _).mono ?_; rintro e w9 ⟨rfl, hw⟩; obtain rfl := hw.symm)
        go_ret
        exact ⟨.inr ⟨HNo.out, rfl⟩, hbl.alloc hs1 _⟩
    · obtain rfl : k = len := by omega
      have HA : Hid (AllId cs) := hidden fun c hc => by
        obtain ⟨j, hj, rfl⟩ := List.getElem_of_mem hc
        exact HD.out j hj (by omega)
      go_wp2
      go_ret
      exact ⟨.inl ⟨HA.out, rfl⟩, hbl⟩
end Go.Proofs.Ytedihackifchcaa
