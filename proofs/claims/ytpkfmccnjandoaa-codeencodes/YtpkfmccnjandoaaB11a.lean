/- An argument that is an instruction, opened; the document's Same of instructions that are alike. -/
import Derived.Test.YtpkfmccnjandoaaC11z
import Derived.Deep.Slices
import Derived.Deep.SlicePairs
import Derived.ChangeSlices
import Derived.SizedLaws
import Derived.Lib.SmallJoins
namespace Go.Proofs.Ytpkfmccnjandoaa
open Go.RowKit Go.ChangeShapes Go.WideShapes
set_option maxHeartbeats 1000000
set_option maxRecDepth 100000
set_option linter.unusedVariables false

/-- operands that came in -/
def IsOds (w : World) (a : Option Addr) (n c : Nat) (l : List Od) : Prop := Ops w a n c l ∧ ∀ p ∈ l, 0 ≤ p.2 ∧ p.2 ≤ 4294967295
theorem open_ods {H : Type} {enc : TypeId × Value → H} {W : World} {fuel : Nat} {a : Option Addr} {len cap : Nat} {x : DataW H × List MemPlace} (h : DataW.trod enc Try.prog W 0 (fun _ => true) true fuel 26 [.slice a len cap] = some x) :
    ∃ l, IsOds W a len cap l := by
  rcases Go.Deep.open_slice Try.underlying26 h with ⟨hcs, _⟩ | ⟨y, l, c, m, n, D, Pl, hcs, _, hl, hm, hmm, hx, hc⟩
  · simp only [List.cons.injEq, and_true, Value.slice.injEq] at hcs
    obtain ⟨rfl, rfl, rfl⟩ := hcs
    exact ⟨[], ⟨rfl, Nat.le_refl _, fun h => by omega⟩, fun b hb => by cases hb⟩
  · simp only [List.cons.injEq, and_true, Value.slice.injEq] at hcs
    obtain ⟨rfl, rfl, rfl⟩ := hcs
    simp only [if_true] at hmm
    subst hmm
    obtain ⟨q, hq⟩ := Go.Deep.choose_lt (α := Od) (n := len) (p := fun i r => W.cell? (y.add (i * 2)) = some (.int .i64 r.1) ∧ W.cell? (y.add (i * 2 + 1)) = some (.int .u32 r.2) ∧ 0 ≤ r.2 ∧ r.2 ≤ 4294967295) (fun i hi => by
      obtain ⟨cs', h1, h2⟩ := hc i (by omega)
      rw [show Try.prog.cellsOf 54 = 2 by kernel_rfl] at h1
      obtain ⟨_, hlen4, hcell⟩ := World.cells?_some h1
      obtain ⟨y0, y1, n', hxy, _, t0, t1⟩ := trod_struct2 Try.underlying54 h2
      match cs', hlen4 with
      | [v0, v1], _ =>
        have f0 := hcell 0 (by omega)
        have f1 := hcell 1 (by omega)
        rw [Go.Deep.add_add] at f0 f1
        replace t0 : DataW.trod enc Try.prog W 0 (fun _ => true) true n' 3 [v0] = some y0 := t0
        replace t1 : DataW.trod enc Try.prog W 0 (fun _ => true) true n' 25 [v1] = some y1 := t1
        obtain ⟨x0, e0, hx0, w0⟩ := DataW.trod_int Try.underlying3 t0
        obtain ⟨x1, e1, hx1, w1⟩ := DataW.trod_int Try.underlying25 t1
        simp only [List.cons.injEq, and_true] at e0 e1
        subst e0 e1
        have b1 := bounds_u32 w1
        exact ⟨(x0, x1), by simpa using f0, by simpa using f1, b1.1, b1.2⟩)
    refine ⟨(List.range len).map q, ⟨by simp, hl, fun h0 => ?_⟩, fun b hb => ?_⟩
    · obtain ⟨b, off, spot⟩ := y
      have hc0 := (hq 0 (by omega)).1
      have hspot : spot = none := by simpa [Addr.add] using World.cell?_spot hc0
      subst hspot
      refine ⟨b, off, rfl, fun i hi => ?_⟩
      obtain ⟨g0, g1, -, -⟩ := hq i hi
      rw [Addr.add_lit] at g0 g1
      have e : ((List.range len).map q).getD i (0, 0) = q i := by simp [List.getD_eq_getElem?_getD, hi]
      rw [e, Nat.add_assoc]
      exact ⟨g0, g1⟩
    · obtain ⟨i, hi, rfl⟩ := List.mem_map.1 hb
      obtain ⟨-, -, g2, g3⟩ := hq i (List.mem_range.1 hi)
      exact ⟨g2, g3⟩
/-- an instruction that came in -/
theorem open_instr {H : Type} {enc : TypeId × Value → H} {W : World} {r : Reach} {b0 : Nat} {v : Value} {d : DataW H} {p : List MemPlace} (hv : Value.okWide Try.prog W r b0 28 v) (h : DataW.Trod enc Try.prog W 0 (fun _ => true) true 28 v d p) :
    ∃ (op : Int) (a : Option Addr) (n c : Nat) (l : List Od), v = .agg #[.int .u32 op, .slice a n c] ∧ (Lit.int .u32 op).wf = true ∧ IsOds W a n c l := by
  obtain ⟨v0, v1, y0, y1, m, rfl, rfl, rfl, h0, h1⟩ := Go.Joins.open_agg2 Try.underlying28 (by kernel_rfl) (by kernel_rfl) hv h
  replace h0 : DataW.trod enc Try.prog W 0 (fun _ => true) true m 25 [v0] = some y0 := h0
  replace h1 : DataW.trod enc Try.prog W 0 (fun _ => true) true m 26 [v1] = some y1 := h1
  obtain ⟨x0, e0, hx0, w0⟩ := DataW.trod_int Try.underlying25 h0
  simp only [List.cons.injEq, and_true] at e0
  subst e0
  have h1' := h1
  rcases Go.Deep.open_slice Try.underlying26 h1' with ⟨hcs, _⟩ | ⟨y, l, c, m', n, D, Pl, hcs, _⟩
  · simp only [List.cons.injEq, and_true] at hcs
    subst hcs
    obtain ⟨l, hl⟩ := open_ods h1
    exact ⟨x0, none, 0, 0, l, rfl, w0, hl⟩
  · simp only [List.cons.injEq, and_true] at hcs
    subst hcs
    obtain ⟨l', hl⟩ := open_ods h1
    exact ⟨x0, some y, l, c, l', rfl, w0, hl⟩
theorem same_od (op : Int) (a1 a2 : Option Addr) (n c1 c2 : Nat) (l : List Od) (w : World) (h1 : Ops w a1 n c1 l) (h2 : Ops w a2 n c2 l) (hn : n ≤ 1000) :
    Calls Try.prog 13 #[.agg #[.int .u32 op, .slice a1 n c1], .agg #[.int .u32 op, .slice a2 n c2]] w fun e w' => e = .returned (.bool true) ∧ Below w.heap.size w w' := by
  have HO1 := hidden h1
  have HO2 := hidden h2
  have hc1 : n ≤ c1 := h1.2.1
  have hc2 : n ≤ c2 := h2.2.1
  clear h1 h2
  have hi1 : IB ((w.alloc (.cells #[.int .u32 op, .slice a1 n c1] 28)).alloc (.cells #[.int .u32 op, .slice a2 n c2] 28)) w.heap.size op a1 n c1 := (heap_alloc_old _ _ (by rw [World.size_alloc]; omega)).trans (heap_alloc_new _ _)
  have hi2 : IB ((w.alloc (.cells #[.int .u32 op, .slice a1 n c1] 28)).alloc (.cells #[.int .u32 op, .slice a2 n c2] 28)) (w.heap.size + 1) op a2 n c2 := by
    have := heap_alloc_new (w.alloc (.cells #[.int .u32 op, .slice a1 n c1] 28)) (.cells #[.int .u32 op, .slice a2 n c2] 28)
    rw [World.size_alloc] at this
    exact this
  have hb : Below w.heap.size w ((w.alloc (.cells #[.int .u32 op, .slice a1 n c1] 28)).alloc (.cells #[.int .u32 op, .slice a2 n c2] 28)) := ((Below.refl _ _).alloc (Nat.le_refl _) _).alloc (by rw [World.size_alloc]; omega) _
  obtain ⟨k0, k1, _, _⟩ := ib_box hi1
  obtain ⟨m0, m1, _, _⟩ := ib_box hi2
  have q : ((n : Int) != (n : Int)) = false := by simp
  go_enter Try.func13, Try.ntmps13
  go_wp2
  have HB := hidden hb
  generalize hwq : (w.alloc (.cells #[.int .u32 op, .slice a1 n c1] 28)).alloc (.cells #[.int .u32 op, .slice a2 n c2] 28) = wq at *
  clear hwq hb hi1 hi2
  go_loopw [5] (fun i wr => ∃ k : Nat, k ≤ n ∧ i = .int .i64 k ∧ Hid (Dr wq wr)) (fun i _ => n - (intOf i).toNat)
  case atStart => exact ⟨0, by omega, rfl, Dr.refl _⟩
  case round =>
    obtain ⟨k, hk, rfl, HD⟩ := hrel
    have j0 := cellLater HD.out.below k0
    have j1 := cellLater HD.out.below k1
    have i0 := cellLater HD.out.below m0
    have i1 := cellLater HD.out.below m1
    by_cases hlt : k < n
    · have hbr := HB.out.trans (HD.out.below.mono HB.out.size)
      obtain ⟨g1, o1, rfl, hc⟩ := HO1.out.2.2 (by omega)
      obtain ⟨g2, o2, rfl, hd⟩ := HO2.out.2.2 (by omega)
      have e1 := cellLater hbr (hc k hlt).1
      have e2 := cellLater hbr (hc k hlt).2
      have e3 := cellLater hbr (hd k hlt).1
      have e4 := cellLater hbr (hd k hlt).2
      have d1 : (k : Int) < (n : Int) := by omega
      have hw3 : IntKind.i64.wrap ((k : Int) + 1) = (k : Int) + 1 := by rw [IntKind.wrap_i64]; omega
      clear hc hd hbr k0 k1 m0 m1
      generalize (l.getD k (0, 0)).1 = M at *
      generalize (l.getD k (0, 0)).2 = V at *
      go_wp2
      go_quiet (fail)
      all_goals (try go_wp2)
      go_roundw
      case rel => exact ⟨k + 1, by omega, int_eq (by omega), HD.out.more _⟩
      case measure => simp [intOf]; omega
    · obtain rfl : k = n := by omega
      have d1 : ¬ (k : Int) < (k : Int) := by omega
      go_wp2
      go_ret
      exact ⟨rfl, HB.out.trans (HD.out.below.mono HB.out.size)⟩
theorem opR_bd {op : Int} {r : Rw} (h : opR op = some r) : 0 ≤ op ∧ op ≤ 569 := by
  have hm : r ∈ tab ∧ r.1 = op := by
    unfold opR at h
    exact ⟨List.mem_of_find?_eq_some h, by simpa using List.find?_some h⟩
  have hb : 0 ≤ r.1 ∧ r.1 ≤ 569 := of_decide_eq_true (List.all_eq_true.1 tab_bd r hm.1)
  omega
theorem enc_parts {op : Int} {l : List Od} (h : encOk op l = true) : ∃ r, opR op = some r ∧ l.length = r.2.2.length ∧ okAll r.2.2 l = true := by
  unfold encOk at h
  cases hr : opR op with
  | none => rw [hr] at h; cases h
  | some r =>
    rw [hr] at h
    simp only [Bool.and_eq_true, beq_iff_eq] at h
    exact ⟨r, rfl, h.1, h.2⟩
theorem encL_ok (op : Int) (l : List Od) (hm : ∀ i, i < l.length → 0 ≤ (l.getD i (0, 0)).1 ∧ (l.getD i (0, 0)).1 ≤ 15) : OkB (encL op l) := by
  intro c hc
  unfold encL at hc
  rw [List.mem_append, List.mem_append] at hc
  rcases hc with (h | h) | h
  · unfold opB at h
    split at h
    · exact putL_bd _ _ c h
    · exact putL_bd _ _ c h
  · unfold mdB at h
    obtain ⟨j, _, rfl⟩ := List.mem_map.1 h
    unfold mdAt
    have hb : ∀ k, 0 ≤ (l.getD k (0, 0)).1 ∧ (l.getD k (0, 0)).1 ≤ 15 := fun k => by
      by_cases hk : k < l.length
      · exact hm k hk
      · simp [List.getD_eq_getElem?_getD, List.getElem?_eq_none (by omega : l.length ≤ k)]
    have := hb (2 * j)
    have := hb (2 * j + 1)
    omega
  · obtain ⟨p, _, hp⟩ := List.mem_flatMap.1 h
    exact valB_ok p c hp
theorem encL_len (op : Int) (l : List Od) (h : l.length ≤ 8) : (encL op l).length ≤ 38 ∧ (encL op l).length = (opB op).length + (mdB l).length + (l.flatMap valB).length := by
  have h1 : (opB op).length ≤ 2 := by unfold opB; split <;> simp [putL]
  have h2 := mdB_len l
  have h3 : ∀ l : List Od, (l.flatMap valB).length ≤ 4 * l.length := fun l => by
    induction l with
    | nil => simp
    | cons p l ih =>
      rw [fl_cons, List.length_append, List.length_cons, valB_len]
      have := widN_cases p.1
      omega
  have := h3 l
  unfold encL
  rw [List.length_append, List.length_append]
  omega
/-- what is laid is read as it was -/
theorem dec_enc (op : Int) (l : List Od) (pre suf : List Int) (h : encOk op l = true) : decR (pre ++ encL op l ++ suf) (pre.length : Int) = (0, op, l, ((encL op l).length : Int)) := by
  obtain ⟨r, hr, hl, hok⟩ := enc_parts h
  have hb := opR_bd hr
  have hd : (pre ++ encL op l ++ suf).drop pre.length = encL op l ++ suf := by rw [List.append_assoc, List.drop_left]
  have hlen : (encL op l).length = (opB op).length + (mdB l).length + (l.flatMap valB).length := by unfold encL; rw [List.length_append, List.length_append]
  have hnum : numO (pre ++ encL op l ++ suf) pre.length = some (op, pre.length + (opB op).length) := by
    have hd' : (pre ++ encL op l ++ suf).drop pre.length = opB op ++ (mdB l ++ (l.flatMap valB ++ suf)) := by rw [hd]; unfold encL; simp only [List.append_assoc]
    by_cases h1 : op < 128
    · have e : opB op = putL op 1 := by unfold opB; rw [if_pos h1]
      rw [e] at hd' ⊢
      exact num_1 _ _ _ op hd' ⟨hb.1, h1⟩
    · have e : opB op = putL (op + 32768) 2 := by unfold opB; rw [if_neg h1]
      rw [e] at hd' ⊢
      exact num_2 _ _ _ op hd' (by omega)
  have hd2 : (pre ++ encL op l ++ suf).drop (pre.length + (opB op).length) = mdB l ++ (l.flatMap valB ++ suf) := by
    rw [← List.drop_drop, hd]
    unfold encL
    rw [List.append_assoc, List.append_assoc, List.drop_left]
  rw [dec_lay _ suf pre.length _ op r l hnum hr hl hok (by rw [List.length_append, List.length_append]; omega) hd2]
  rw [hlen]
  simp only [Prod.mk.injEq, true_and]
  omega
end Go.Proofs.Ytpkfmccnjandoaa
