/- Contracts of the document's Same and Huge over chunks: whether two rows of chunks are alike, and whether there are too many or too great ones. -/
import Derived.Test.YthmobhnkoinmcaaJ5h
import Derived.Deep.QuietTactic
import Derived.BigQuiet
namespace Go.Proofs.Ythmobhnkoinmcaa
open Go.RowKit
set_option maxHeartbeats 1000000
set_option maxRecDepth 100000
set_option linter.unusedVariables false

theorem below_drewN {B : Nat} {a w : World} (h : Below B a w) (n : Nat) : Below B a (w.drewN n) := ⟨h.os, h.tape, h.output, h.size, h.block⟩
theorem Cks.at {w : World} {a : Option Addr} {len cap : Nat} {cs : List Ck} (h : Cks w a len cap cs) (h0 : 0 < len) : ∃ b off, a = some ⟨b, off, none⟩ ∧ ∀ i (h : i < cs.length), w.cell? ⟨b, off + i * 2, none⟩ = some (.string cs[i].id) ∧ w.cell? ⟨b, off + i * 2 + 1, none⟩ = some (.slice cs[i].a cs[i].l cs[i].c) := by
  rcases h.2.2.1 with h | h
  · omega
  · exact h
theorem rsame_any (a1 a2 : Option Addr) (l c1 c2 : Nat) (cs1 cs2 : List Ck) (w : World) (h1 : Cks w a1 l c1 cs1) (h2 : Cks w a2 l c2 cs2) (hm : l ≤ 1000000) (hi : cs2.map (·.id) = cs1.map (·.id)) (hd : cs2.map (·.d) = cs1.map (·.d)) :
    Calls Try.prog 12 #[.slice a1 l c1, .slice a2 l c2] w fun e w' => e = .returned (.bool true) ∧ Below w.heap.size w w' := by
  have H1 := hidden h1
  have H2 := hidden h2
  have hl1 := h1.1
  have hl2 := h2.1
  have hc1 := h1.2.1
  have hc2 := h2.2.1
  have HI : Hid (∀ k (h : k < cs1.length) (h' : k < cs2.length), cs2[k].id = cs1[k].id) := hidden fun k h h' => by
    have e : (cs2.map (·.id))[k]? = (cs1.map (·.id))[k]? := by rw [hi]
    simpa [h, h'] using e
  have HD : Hid (∀ k (h : k < cs1.length) (h' : k < cs2.length), cs2[k].d = cs1[k].d) := hidden fun k h h' => by
    have e : (cs2.map (·.d))[k]? = (cs1.map (·.d))[k]? := by rw [hd]
    simpa [h, h'] using e
  clear h1 h2 hi hd
  have hli : (l : Int) ≤ 1000000 := by omega
  go_enter Try.func12, Try.ntmps12
  go_wp2
  go_loopw [5] (fun i w' => ∃ k : Nat, k ≤ l ∧ i = .int .i64 k ∧ Below w.heap.size w w') (fun i _ => l - (intOf i).toNat)
  case atStart => exact ⟨0, by omega, rfl, Below.refl _ _⟩
  case round =>
    obtain ⟨k, hk, rfl, hbl⟩ := hrel
    have hs1 := hbl.size
    by_cases hlt : k < l
    · have hlt2 : (k : Int) < (l : Int) := by omega
      have hk1 : k < cs1.length := by omega
      have hk2 : k < cs2.length := by omega
      obtain ⟨b1, o1, rfl, q1⟩ := H1.out.at (by omega)
      obtain ⟨b2, o2, rfl, q2⟩ := H2.out.at (by omega)
      have p0 := cellLater hbl (q1 k hk1).1
      have p1 := cellLater hbl (q1 k hk1).2
      have r0 := cellLater hbl (q2 k hk2).1
      have r1 := cellLater hbl (q2 k hk2).2
      rw [HI.out k hk1 hk2] at r0
      have m1 := H1.out.2.2.2 _ (List.getElem_mem hk1)
      have m2 := H2.out.2.2.2 _ (List.getElem_mem hk2)
      rw [HD.out k hk1 hk2] at m2
      have HS : Hid (∀ n, Calls Try.prog 40 #[.slice cs1[k].a cs1[k].l cs1[k].c, .slice cs2[k].a cs2[k].l cs2[k].c] (wr.drewN n) fun e w' => e = .returned (.bool true) ∧ w' = wr.drewN n) := hidden fun n => same_eq _ _ _ _ _ _ cs1[k].d (wr.drewN n) m1.2 (m1.1.later (below_drewN hbl n)) (m2.1.later (below_drewN hbl n))
      clear q1 q2 m1 m2 H1 H2
      have hi0 : (0 : Int) ≤ (k : Int) := by omega
      go_upto_region 6 with fail
      go_quiet (first | (go_at_call 40; exact Calls.quiet_of_same (HS.out _)))
      go_wp2
      go_roundw
      case rel => exact ⟨k + 1, by omega, by go_num, below_drewN hbl _⟩
      case measure => simp [intOf]; omega
    · obtain rfl : k = l := by omega
      go_wp2
      go_ret
      exact ⟨rfl, hbl⟩
/-- how many bytes letters and data have together -/
def tot (cs : List Ck) : Nat := (cs.map fun k => k.l + k.id.size).sum
theorem tot_snoc (cs : List Ck) (k : Nat) (h : k < cs.length) : tot (cs.take (k + 1)) = tot (cs.take k) + (cs[k].l + cs[k].id.size) := by
  unfold tot
  rw [List.take_succ_eq_append_getElem h, List.map_append, List.sum_append_nat]
  simp only [List.map_cons, List.map_nil, List.sum_cons, List.sum_nil, Nat.add_zero]
def HugeRet (w : World) (len : Nat) (cs : List Ck) (e : Ending) (w' : World) : Prop := (e = .returned (.bool true) ∨ (e = .returned (.bool false) ∧ len ≤ 2000 ∧ tot cs ≤ 65536)) ∧ Below w.heap.size w w'
theorem huge_any (a : Option Addr) (len cap : Nat) (cs : List Ck) (w : World) (hc : Cks w a len cap cs) (hlm : len ≤ 281474976710656) (hk : ∀ k ∈ cs, k.l ≤ 281474976710656 ∧ k.id.size ≤ 281474976710656) :
    Calls Try.prog 7 #[.slice a len cap, .int .i64 2000, .int .i64 65536] w (HugeRet w len cs) := by
  have HC := hidden hc
  have hlen := hc.1
  have hcap := hc.2.1
  have HK := hidden hk
  clear hc hk
  have hli : (len : Int) ≤ 281474976710656 := by omega
  by_cases hbig : 2000 < len
  · have hb2 : (2000 : Int) < (len : Int) := by omega
    go_enter Try.func7, Try.ntmps7
    go_wp2
    go_ret
    exact ⟨.inl rfl, Below.refl _ _⟩
  have hb2 : ¬ (2000 : Int) < (len : Int) := by omega
  go_enter Try.func7, Try.ntmps7
  go_wp2
  go_loopw [7, 8] (fun n i w' => ∃ k : Nat, k ≤ len ∧ i = .int .i64 k ∧ n = .int .i64 ((tot (cs.take k) : Nat) : Int) ∧ tot (cs.take k) ≤ 65536 ∧ Below w.heap.size w w') (fun _ i _ => len - (intOf i).toNat)
  case atStart => exact ⟨0, by omega, rfl, rfl, by simp [tot], Below.refl _ _⟩
  case round =>
    obtain ⟨k, hk, rfl, rfl, ht, hbl⟩ := hrel
    have hs1 := hbl.size
    by_cases hlt : k < len
    · have hlt2 : (k : Int) < (len : Int) := by omega
      have hk1 : k < cs.length := by omega
      obtain ⟨b1, o1, rfl, q1⟩ := HC.out.at (by omega)
      have p0 := cellLater hbl (q1 k hk1).1
      have p1 := cellLater hbl (q1 k hk1).2
      have m1 := HK.out _ (List.getElem_mem hk1)
      have hsn := hidden (tot_snoc cs k hk1)
      have hi0 : (0 : Int) ≤ (k : Int) := by omega
      clear q1
      generalize hck : cs[k] = c at *
      clear hck
      generalize htt : tot (cs.take k) = t at *
      have y1 : (t : Int) ≤ 65536 := by omega
      have y2 : (c.l : Int) ≤ 281474976710656 := by omega
      have y3 : (c.id.size : Int) ≤ 281474976710656 := by omega
      have y4 : IntKind.i64.wrap ((t : Int) + (c.l : Int)) = (t : Int) + (c.l : Int) := by rw [IntKind.wrap_i64]; omega
      have y5 : IntKind.i64.wrap ((t : Int) + (c.l : Int) + (c.id.size : Int)) = (t : Int) + (c.l : Int) + (c.id.size : Int) := by rw [IntKind.wrap_i64]; omega
      clear htt
      go_upto_region 7 with fail
      go_quiet (fail)
      by_cases hgt : (65536 : Int) < (t : Int) + (c.l : Int) + (c.id.size : Int)
      · go_wp2
        go_ret
        exact ⟨.inl rfl, below_drewN hbl _⟩
      · go_wp2
        go_roundw
        case rel => exact ⟨k + 1, by omega, by go_num, int_eq (by rw [hsn.out]; omega), by rw [hsn.out]; omega, below_drewN hbl _⟩
        case measure => simp [intOf]; omega
    · obtain rfl : k = len := by omega
      have hse : cs.take k = cs := List.take_of_length_le (by omega)
      rw [hse] at ht
      have HT := hidden ht
      go_wp2
      go_ret
      exact ⟨.inr ⟨rfl, by omega, HT.out⟩, hbl⟩
end Go.Proofs.Ythmobhnkoinmcaa
