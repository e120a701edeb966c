/- Layer 15, the program: bytesBeside, mayHave, hasRoom. -/
import Derived.Test.YtmohnopegacahaaS15q
namespace Go.Proofs.Ytmohnopegacahaa
open Go.RowKit
set_option maxHeartbeats 1000000
set_option maxRecDepth 100000
set_option linter.unusedVariables false

theorem neq_same {P : Program} (w : World) {tp te : TypeId} {j : TypeInfo} (a : Addr) (hp : P.underlying tp = some (.pointer te)) (hte : P.info? te = some j) :
    (binOp .neq tp (.pointer (some a)) (.pointer (some a))).run P w = .ok (.bool false) w := by
  have h : ∀ d : Nat, (Op.equalIn (d + 1) tp (.pointer (some a)) (.pointer (some a))).run P w = .ok true w := fun d => by
    simp [Op.equalIn, run_underlying hp, sizeOf, typeInfo, hte, run_sameAddr_same]
  simp only [binOp]
  simp [Op.equal, Op.maxDepth, h 9999]
theorem neq_other {P : Program} (w : World) {tp te : TypeId} {j : TypeInfo} {a b : Addr} {ca cb : Array Value} {ta tb : TypeId} (hp : P.underlying tp = some (.pointer te)) (hte : P.info? te = some j) (hsz : j.size ≠ 0)
    (hne : a ≠ b) (ha : w.heap[a.block]? = some (.cells ca ta (0, 0))) (hb : w.heap[b.block]? = some (.cells cb tb (0, 0))) :
    (binOp .neq tp (.pointer (some a)) (.pointer (some b))).run P w = .ok (.bool true) w := by
  have h : ∀ d : Nat, (Op.equalIn (d + 1) tp (.pointer (some a)) (.pointer (some b))).run P w = .ok false w := fun d => by
    simp [Op.equalIn, run_underlying hp, sizeOf, typeInfo, hte, hsz, run_sameAddr_other w hne ha hb]
  simp only [binOp]
  simp [Op.equal, Op.maxDepth, h 9999]
theorem neq_ff {w : World} {a b : Nat} (ha : IsF w a) (hb : IsF w b) : (binOp .neq 72 (.pointer (some ⟨a, 0, none⟩)) (.pointer (some ⟨b, 0, none⟩))).run Try.prog w = .ok (.bool (!decide (a = b))) w := by
  obtain ⟨j, hj, hjs⟩ := Option.map_eq_some_iff.1 info_file
  by_cases h : a = b
  · subst h
    simpa using neq_same (P := Try.prog) w ⟨a, 0, none⟩ Try.underlying72 hj
  · obtain ⟨va, ha⟩ := ha
    obtain ⟨vb, hb⟩ := hb
    simpa [h] using neq_other (P := Try.prog) w (a := ⟨a, 0, none⟩) (b := ⟨b, 0, none⟩) Try.underlying72 hj (by rw [hjs]; decide) (fun e => h (by injection e)) ha hb
theorem beside_nil {B m : Nat} {w : World} {s : Sh} (h : ShAt B w m s) (hf : s.fm = none) (fp : Option Nat) :
    Calls Try.prog 46 #[.pointer (some ⟨m, 0, none⟩), ptrF fp] w fun e w' => e = .returned (.int .i64 (bbF s.F fp : Nat)) ∧ Below w.heap.size w w' := by
  obtain ⟨d0, d1, d2, d3, d5⟩ := h.cells
  have hm := h.mp
  rw [hf] at hm d1
  have hF : s.F = [] := hm
  rw [hF, show ((bbF [] fp : Nat) : Int) = 0 from rfl]
  have hb : Below w.heap.size w (w.alloc (.mapIter none 0 #[] 0)) := (Below.refl _ _).alloc (Nat.le_refl _) _
  have HB := hidden hb
  have hrg := run_range_nilMap (P := Try.prog) w 67 9 72 Try.underlying67
  have hnx : ∀ ty, (Instr.next (.pointer (some ⟨w.heap.size, 0, none⟩)) false ty).run Try.prog (w.alloc (.mapIter none 0 #[] 0)) = _ := fun ty => run_next_nilMap w ty 0 0 #[]
  clear h hm hF hb
  go_enter Try.func46, Try.ntmps46
  go_wp2
  refine wp_loop_rounds 1 ?_
  rw [rounds_succ]
  go_wp2
  go_ret
  exact ⟨rfl, HB.out⟩
set_option maxHeartbeats 4000000 in
theorem beside_some {B m mb : Nat} {w : World} {s : Sh} (h : ShAt B w m s) (hf : s.fm = some mb) (fp : Option Nat) (hfp : ∀ b, fp = some b → IsF w b) (hsum : (s.F.map (fun f => f.zs.length)).sum ≤ 4000000) :
    Calls Try.prog 46 #[.pointer (some ⟨m, 0, none⟩), ptrF fp] w fun e w' => e = .returned (.int .i64 (bbF s.F fp : Nat)) ∧ Below w.heap.size w w' := by
  obtain ⟨d0, d1, d2, d3, d5⟩ := h.cells
  have hm := h.mp
  rw [hf] at hm d1
  obtain ⟨hmb, n, D, hn, hown, tie⟩ := hm
  have HT := hidden tie
  have HFS : Hid (∀ w1, Below w.heap.size w w1 → ∀ f ∈ s.F, IsF w1 f.b ∧ w1.cell? ⟨f.b, 0, none⟩ = some f.v ∧ ∃ a c, f.v = .slice a f.zs.length c) := hidden (fun w1 hb f hf => by
    have h1 := (h.fs f hf).later hb
    obtain ⟨a, c, e⟩ := own_slice h1.row
    exact ⟨⟨_, h1.box⟩, h1.cell.1, a, c, e⟩)
  have HFP : Hid (∀ w1, Below w.heap.size w w1 → ∀ b, fp = some b → IsF w1 b) := hidden (fun w1 hb b e => (hfp b e).later hb)
  have HSM : Hid (∀ left, bbL s.F fp left ≤ 4000000) := hidden (fun left => Nat.le_trans (bb_le fp left) hsum)
  have HST : Hid (bbL s.F fp (Maps.has D) = 0) := hidden (bb_start fp (fun f hf => by
    rw [tie.has f.nm]
    unfold findF
    rw [List.find?_isSome]
    exact ⟨f, hf, by simp⟩))
  clear h hfp hsum tie
  generalize hPF : ptrF fp = PF
  have HPF := hidden hPF
  clear hPF
  go_enter Try.func46, Try.ntmps46
  go_wp2_with (first | (at_range; refine wpList_range_own _ rfl _ 67 rfl 9 72 keyS Try.underlying67 elF mb n D rfl hown ?_; intro w0 hrg0 hg0 hs0; have HR0 := hidden hrg0; have HB0 := hidden ((Below.refl w.heap.size w).grown hg0 (Nat.le_refl _) (fun j hj => by cases hj)); clear hrg0 hg0 hs0) | fail)
  go_frame
  go_loopw [5, 7] (fun a _ wr => ∃ (left : Lit → Bool) (cnt : Nat), a = .int .i64 (bbL s.F fp left : Nat) ∧ Hid (wr.ranges Try.prog 9 elF mb w.heap.size n D left cnt) ∧ Hid (Below w.heap.size w wr)) (fun _ _ wr => wr.rangeLeft mb w.heap.size)
  case atStart => exact ⟨_, _, by rw [HST.out]; rfl, HR0, HB0⟩
  case round =>
    clear HST HR0 HB0 hown
    obtain ⟨left, cnt, rfl, HR, HB⟩ := hrel
    go_wp2_with (first | (at_next; refine wpList_next_ranges _ rfl _ rfl 9 keyS elF (α := ByteArray) (β := Option Nat) Value.string ptrF (fun key kl hk => by obtain ⟨x, e, _⟩ := key_inv hk; exact ⟨x, e⟩) (fun v y hv => el_inv hv) mb w.heap.size n D left cnt rfl HR.out ?_ ?_) | fail)
    · intro _ hl0
      have HE := hidden (bb_end (F := s.F) fp hl0)
      clear hl0
      generalize bbL s.F fp left = BB at *
      go_wp2
      go_ret
      exact ⟨congrArg Ending.returned (int_eq (by rw [HE.out])), HB.out⟩
    · intro x c kl yd yp w1 cnt1 hkey hlk hv hat hrg1 hlt hg1 hs1 hen
      obtain ⟨x', ex, ek⟩ := key_inv hkey
      injection ex with ex
      subst ex
      subst ek
      obtain ⟨f, hf, hnm, hc⟩ := who (y := (yd, yp)) HT.out hv hat
      subst hc
      have HST2 := hidden (bb_step fp HT.out.nd hf (by rw [hnm]; exact hlk))
      have HB1 : Hid (Below w.heap.size w w1) := hidden (HB.out.grown hg1 HB.out.size (fun j hj => by cases hj; exact Nat.le_refl _))
      have HR1 := hidden hrg1
      have HM : Hid (w1.rangeLeft mb w.heap.size < wr.rangeLeft mb w.heap.size) := hidden (by rw [hrg1.left_eq, HR.out.left_eq]; exact hlt)
      rw [hnm] at HST2
      have hs1' := HSM.out (fun z => left z && !z.sameKey (.string x.data.toList))
      clear hkey hlk hv hat hrg1 hlt hg1 hs1 HR hnm
      obtain ⟨i1, i2, a, c, ev⟩ := HFS.out w1 HB1.out f hf
      rw [ev] at i2
      generalize bbL s.F fp left = BB at *
      obtain ⟨BB2, HBB⟩ : ∃ BB2, Hid (bbL s.F fp (fun z => left z && !z.sameKey (.string x.data.toList)) = BB2) := ⟨_, hidden rfl⟩
      rw [HBB.out] at HST2 hs1'
      by_cases e : some f.b = fp
      · rw [if_pos e, Nat.add_zero] at HST2
        have hq : (binOp .neq 72 (.pointer (some ⟨f.b, 0, none⟩)) PF).run Try.prog w1 = .ok (.bool false) w1 := by
          have := neq_ff i1 i1
          rw [show (!decide (f.b = f.b)) = false by simp] at this
          rw [← HPF.out, ← e]
          exact this
        rw [show ptrF (some f.b) = .pointer (some ⟨f.b, 0, none⟩) from rfl] at hen ⊢
        clear e
        generalize f.b = FB at *
        go_wp2
        go_roundw
        case rel => exact ⟨_, _, congrArg (Value.int .i64) (by rw [HBB.out, HST2.out]), HR1, HB1⟩
        case measure => exact HM.out
      · rw [if_neg e] at HST2
        have hq : (binOp .neq 72 (.pointer (some ⟨f.b, 0, none⟩)) PF).run Try.prog w1 = .ok (.bool true) w1 := by
          rw [← HPF.out]
          clear HPF
          cases fp with
          | none =>
            have := run_neq_pointer_nil (P := Try.prog) (w := w1) 72 (some ⟨f.b, 0, none⟩) Try.underlying72
            simpa [ptrF] using this
          | some b =>
            have := neq_ff i1 (HFP.out w1 HB1.out b rfl)
            rw [show (!decide (f.b = b)) = true by simp; exact fun q => e (by rw [q])] at this
            exact this
        have hw : IntKind.i64.wrap ((BB : Int) + (f.zs.length : Int)) = (BB : Int) + (f.zs.length : Int) := by rw [HST2.out] at hs1'; rw [IntKind.wrap_i64]; omega
        rw [show ptrF (some f.b) = .pointer (some ⟨f.b, 0, none⟩) from rfl] at hen ⊢
        clear e
        generalize f.b = FB at *
        generalize f.zs.length = FL at *
        go_wp2
        go_roundw
        case rel => exact ⟨_, _, congrArg (Value.int .i64) (by rw [HBB.out, HST2.out]; push_cast; rfl), HR1, HB1⟩
        case measure => exact HM.out
end Go.Proofs.Ytmohnopegacahaa
