/- Contracts of the document's Same and Huge over resources. -/
import Derived.Test.YtedihackifchcaaX6n
import Derived.Deep.QuietTactic
import Derived.BigQuiet
namespace Go.Proofs.Ytedihackifchcaa
open Go.RowKit
set_option maxHeartbeats 1000000
set_option maxRecDepth 100000
set_option linter.unusedVariables false

theorem rsame6 (a1 a2 : Option Addr) (l c1 c2 : Nat) (rs1 rs2 : List Rk) (w : World) (h1 : Rks w a1 l c1 rs1) (h2 : Rks w a2 l c2 rs2) (hm : l ≤ 1000000) (he : rs2.map srOf = rs1.map srOf) :
    Calls Try.prog 17 #[.slice a1 l c1, .slice a2 l c2] w fun e w' => e = .returned (.bool true) ∧ Below w.heap.size w w' := by
  have H1 := hidden h1
  have H2 := hidden h2
  have hl1 := h1.1
  have hl2 := h2.1
  have hc1 := h1.2.1
  have hc2 := h2.2.1
  have HI : Hid (∀ k (h : k < rs1.length) (h' : k < rs2.length), rs2[k].u = rs1[k].u ∧ rs2[k].x = rs1[k].x ∧ rs2[k].id = rs1[k].id ∧ rs2[k].d = rs1[k].d) := hidden fun k h h' => by
    have e : (rs2.map srOf)[k]? = (rs1.map srOf)[k]? := by rw [he]
    simp only [List.getElem?_map, List.getElem?_eq_getElem h, List.getElem?_eq_getElem h', Option.map_some, Option.some.injEq] at e
    exact ⟨congrArg (fun s => s.1) e, congrArg (fun s => s.2.1) e, congrArg (fun s => s.2.2.1) e, congrArg (fun s => s.2.2.2) e⟩
  clear h1 h2 he
  have hli : (l : Int) ≤ 1000000 := by omega
  go_enter Try.func17, Try.ntmps17
  go_wp2
  go_loopw [5] (fun i w' => ∃ k : Nat, k ≤ l ∧ i = .int .i64 k ∧ Below w.heap.size w w') (fun i _ => l - (intOf i).toNat)
  case atStart => exact ⟨0, by omega, rfl, Below.refl _ _⟩
  case round =>
    obtain ⟨k, hk, rfl, hbl⟩ := hrel
    have hs1 := hbl.size
    by_cases hlt : k < l
    · have hlt2 : (k : Int) < (l : Int) := by omega
      have hk1 : k < rs1.length := by omega
      have hk2 : k < rs2.length := by omega
      obtain ⟨b1, o1, rfl, q1⟩ := H1.out.at (by omega)
      obtain ⟨b2, o2, rfl, q2⟩ := H2.out.at (by omega)
      obtain ⟨x0, x1, x2, x3⟩ := q1 k hk1
      obtain ⟨y0, y1, y2, y3⟩ := q2 k hk2
      have p0 := cellLater hbl x0
      have p1 := cellLater hbl x1
      have p2 := cellLater hbl x2
      have p3 := cellLater hbl x3
      have r0 := cellLater hbl y0
      have r1 := cellLater hbl y1
      have r2 := cellLater hbl y2
      have r3 := cellLater hbl y3
      obtain ⟨e0, e1, e2, e3⟩ := HI.out k hk1 hk2
      rw [e0] at r0
      rw [e1] at r1
      rw [e2] at r2
      have m1 := H1.out.2.2.2 _ (List.getElem_mem hk1)
      have m2 := H2.out.2.2.2 _ (List.getElem_mem hk2)
      rw [e3] at m2
      have HS : Hid (∀ n, Calls Try.prog 15 #[.slice rs1[k].a rs1[k].l rs1[k].c, .slice rs2[k].a rs2[k].l rs2[k].c] (wr.drewN n) fun e w' => e = .returned (.bool true) ∧ w' = wr.drewN n) := hidden fun n => same_eq _ _ _ _ _ _ rs1[k].d (wr.drewN n) m1.2.1 (m1.1.later (below_drewN hbl n)) (m2.1.later (below_drewN hbl n))
      clear q1 q2 m1 m2 H1 H2 x0 x1 x2 x3 y0 y1 y2 y3 e0 e1 e2 e3
      generalize rs1[k] = A1 at *
      generalize rs2[k] = A2 at *
      obtain ⟨au, ax, ai, aa, al, ac, ad⟩ := A1
      obtain ⟨bu, bx, bi, ba, bl, bc, bd⟩ := A2
      simp only at *
      have hi0 : (0 : Int) ≤ (k : Int) := by omega
      go_upto_region 6 with fail
      go_quiet (first | (go_at_call 15; exact Calls.quiet_of_same (HS.out _)))
      go_wp2
      go_roundw
      case rel => exact ⟨k + 1, by omega, by go_num, below_drewN hbl _⟩
      case measure => simp [intOf]; omega
    · obtain rfl : k = l := by omega
      go_wp2
      go_ret
      exact ⟨rfl, hbl⟩
/-- how many bytes letters and data have together -/
def totR (rs : List Rk) : Nat := (rs.map fun r => r.l + r.id.size + r.u.size).sum
theorem totR_snoc (rs : List Rk) (k : Nat) (h : k < rs.length) : totR (rs.take (k + 1)) = totR (rs.take k) + (rs[k].l + rs[k].id.size + rs[k].u.size) := by
  unfold totR
  rw [List.take_succ_eq_append_getElem h, List.map_append, List.sum_append_nat]
  simp only [List.map_cons, List.map_nil, List.sum_cons, List.sum_nil, Nat.add_zero]
theorem totR_sizes (rs : List Rk) : sizes (rs.map ckOf) ≤ 9 * rs.length + totR rs := by
  induction rs with
  | nil => simp [sizes, totR]
  | cons r rs ih =>
    unfold sizes totR at *
    simp only [List.map_cons, List.sum_cons, List.length_cons]
    have : ckSize (ckOf r) = 8 + r.l + r.l % 2 := rfl
    omega
def HugeR (w : World) (many len : Nat) (rs : List Rk) (e : Ending) (w' : World) : Prop := (e = .returned (.bool true) ∨ (e = .returned (.bool false) ∧ len ≤ many ∧ totR rs ≤ 65536)) ∧ Below w.heap.size w w'
/-- resources as they come in -/
def IsRks (w : World) (a : Option Addr) (len cap : Nat) (rs : List Rk) : Prop := Rks w a len cap rs ∧ len ≤ 281474976710656 ∧ (∀ r ∈ rs, r.l ≤ 281474976710656 ∧ r.id.size ≤ 281474976710656 ∧ r.u.size ≤ 281474976710656) ∧ (a = none → cap = 0)
theorem huge6 (many : Nat) (a : Option Addr) (len cap : Nat) (rs : List Rk) (w : World) (hc : IsRks w a len cap rs) (hmany : many ≤ 1000) :
    Calls Try.prog 10 #[.slice a len cap, .int .i64 (many : Int), .int .i64 65536] w (HugeR w many len rs) := by
  obtain ⟨hc, hlm, hk, -⟩ := hc
  have HC := hidden hc
  have hlen := hc.1
  have hcap := hc.2.1
  have HK := hidden hk
  clear hc hk
  have hli : (len : Int) ≤ 281474976710656 := by omega
  have hmi : (many : Int) ≤ 1000 := by omega
  by_cases hbig : many < len
  · have hb2 : (many : Int) < (len : Int) := by omega
    go_enter Try.func10, Try.ntmps10
    go_wp2
    go_ret
    exact ⟨.inl rfl, Below.refl _ _⟩
  have hb2 : ¬ (many : Int) < (len : Int) := by omega
  go_enter Try.func10, Try.ntmps10
  go_wp2
  go_loopw [7, 8] (fun n i w' => ∃ k : Nat, k ≤ len ∧ i = .int .i64 k ∧ n = .int .i64 ((totR (rs.take k) : Nat) : Int) ∧ totR (rs.take k) ≤ 65536 ∧ Below w.heap.size w w') (fun _ i _ => len - (intOf i).toNat)
  case atStart => exact ⟨0, by omega, rfl, rfl, by simp [totR], Below.refl _ _⟩
  case round =>
    obtain ⟨k, hk, rfl, rfl, ht, hbl⟩ := hrel
    have hs1 := hbl.size
    by_cases hlt : k < len
    · have hlt2 : (k : Int) < (len : Int) := by omega
      have hk1 : k < rs.length := by omega
      obtain ⟨b1, o1, rfl, q1⟩ := HC.out.at (by omega)
      obtain ⟨x0, x1, x2, x3⟩ := q1 k hk1
      have p0 := cellLater hbl x0
      have p2 := cellLater hbl x2
      have p3 := cellLater hbl x3
      have m1 := HK.out _ (List.getElem_mem hk1)
      have hsn := hidden (totR_snoc rs k hk1)
      have hi0 : (0 : Int) ≤ (k : Int) := by omega
      clear q1 x0 x1 x2 x3
      generalize hck : rs[k] = c at *
      clear hck
      generalize htt : totR (rs.take k) = t at *
      have y1 : (t : Int) ≤ 65536 := by omega
      have y2 : (c.l : Int) ≤ 281474976710656 := by omega
      have y3 : (c.id.size : Int) ≤ 281474976710656 := by omega
      have y3' : (c.u.size : Int) ≤ 281474976710656 := by omega
      have y4 : IntKind.i64.wrap ((t : Int) + (c.l : Int)) = (t : Int) + (c.l : Int) := by rw [IntKind.wrap_i64]; omega
      have y5 : IntKind.i64.wrap ((t : Int) + (c.l : Int) + (c.id.size : Int)) = (t : Int) + (c.l : Int) + (c.id.size : Int) := by rw [IntKind.wrap_i64]; omega
      have y6 : IntKind.i64.wrap ((t : Int) + (c.l : Int) + (c.id.size : Int) + (c.u.size : Int)) = (t : Int) + (c.l : Int) + (c.id.size : Int) + (c.u.size : Int) := by rw [IntKind.wrap_i64]; omega
      clear htt
      go_upto_region 7 with fail
      go_quiet (fail)
      by_cases hgt : (65536 : Int) < (t : Int) + (c.l : Int) + (c.id.size : Int) + (c.u.size : Int)
      · go_wp2
        go_ret
        exact ⟨.inl rfl, below_drewN hbl _⟩
      · go_wp2
        go_roundw
        case rel => exact ⟨k + 1, by omega, by go_num, int_eq (by rw [hsn.out]; omega), by rw [hsn.out]; omega, below_drewN hbl _⟩
        case measure => simp [intOf]; omega
    · obtain rfl : k = len := by omega
      have hse : rs.take k = rs := List.take_of_length_le (by omega)
      rw [hse] at ht
      have HT := hidden ht
      go_wp2
      go_ret
      exact ⟨.inr ⟨rfl, by omega, HT.out⟩, hbl⟩
end Go.Proofs.Ytedihackifchcaa
