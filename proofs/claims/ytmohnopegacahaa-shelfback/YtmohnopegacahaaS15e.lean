/- Layer 15, the program: a stream's mode, its place, what it lies on; a character put into a buffer. -/
import Derived.Test.YtmohnopegacahaaS15c
import Derived.LaidEqlPtr
namespace Go.Proofs.Ytmohnopegacahaa
open Go.RowKit
set_option maxHeartbeats 1000000
set_option maxRecDepth 100000
set_option linter.unusedVariables false

/-- which kind a ground is -/
theorem as_ff (g : Nat) (w : World) : (Instr.typeAssert (.iface 72 (.pointer (some ⟨g, 0, none⟩))) 78 72 true).run Try.prog w = .ok (.tuple #[.pointer (some ⟨g, 0, none⟩), .bool true]) w := by kernel_rfl
theorem as_fb (g : Nat) (w : World) : (Instr.typeAssert (.iface 72 (.pointer (some ⟨g, 0, none⟩))) 78 95 true).run Try.prog w = .ok (.tuple #[.pointer none, .bool false]) w := by kernel_rfl
theorem as_bb (g : Nat) (w : World) : (Instr.typeAssert (.iface 95 (.pointer (some ⟨g, 0, none⟩))) 78 95 true).run Try.prog w = .ok (.tuple #[.pointer (some ⟨g, 0, none⟩), .bool true]) w := by kernel_rfl
theorem as_bf (g : Nat) (w : World) : (Instr.typeAssert (.iface 95 (.pointer (some ⟨g, 0, none⟩))) 78 72 true).run Try.prog w = .ok (.tuple #[.pointer none, .bool false]) w := by kernel_rfl
def rdB (m : Int) : Bool := decide (m = 2 ∨ m = 3)
def wrB (m : Int) : Bool := decide (m ≠ 2)
def asW (c : Int) (wide : Bool) : Int := if wide = false ∧ c > 255 then 63 else c
theorem reads_any (d : Sm) (w : World) (hs : SBox w d) : Calls Try.prog 56 #[.pointer (some ⟨d.k, 0, none⟩)] w fun e w' => e = .returned (.bool (rdB d.md)) ∧ w' = w := by
  obtain ⟨c0, c1, c2, c3, c4, c5, c6, z0⟩ := hs.cells
  clear hs c0 c1 c3 c4 c5 c6
  generalize d.md = M at *
  by_cases h2 : M = 2
  · have q : (M == 2) = true := by simp [h2]
    rw [show rdB M = true by simp [rdB, h2]]
    clear h2
    go_enter Try.func56, Try.ntmps56
    go_wp2
    go_ret
    exact ⟨rfl, rfl⟩
  · have q : (M == 2) = false := by simp [h2]
    rw [show rdB M = (M == 3) by by_cases h3 : M = 3 <;> simp [rdB, h2, h3]]
    clear h2
    go_enter Try.func56, Try.ntmps56
    go_wp2
    go_ret
    exact ⟨rfl, rfl⟩
theorem writes_any (d : Sm) (w : World) (hs : SBox w d) : Calls Try.prog 35 #[.pointer (some ⟨d.k, 0, none⟩)] w fun e w' => e = .returned (.bool (wrB d.md)) ∧ w' = w := by
  obtain ⟨c0, c1, c2, c3, c4, c5, c6, z0⟩ := hs.cells
  clear hs c0 c1 c3 c4 c5 c6
  generalize d.md = M at *
  rw [show wrB M = (M != 2) by by_cases h : M = 2 <;> simp [wrB, h]]
  go_enter Try.func35, Try.ntmps35
  go_wp2
  go_ret
  exact ⟨rfl, rfl⟩
theorem asWritten_any (c : Int) (wide : Bool) (w : World) : Calls Try.prog 45 #[.int .u32 c, .bool wide] w fun e w' => e = .returned (.int .u32 (asW c wide)) ∧ w' = w := by
  cases wide
  · by_cases h : c > 255
    · have q : (255 : Int) < c := h
      rw [show asW c false = 63 by simp [asW, h]]
      go_enter Try.func45, Try.ntmps45
      go_wp2
      go_ret
      exact ⟨rfl, rfl⟩
    · have q : ¬ (255 : Int) < c := h
      rw [show asW c false = c by simp [asW, h]]
      go_enter Try.func45, Try.ntmps45
      go_wp2
      go_ret
      exact ⟨rfl, rfl⟩
  · rw [show asW c true = c by simp [asW]]
    go_enter Try.func45, Try.ntmps45
    go_wp2
    go_ret
    exact ⟨rfl, rfl⟩
/-- where a stream is led: so far from there, within its bounds -/
def mvN (size : Nat) (frm by_ : Int) : Nat := (frm + min (max by_ (-frm)) (size - frm)).toNat
theorem move_any {B : Nat} {w : World} {v : Value} {zs : List Int} (d : Sm) (hs : SBox w d) (hg : GAt B w d.f d.g v zs) (frm by_ : Int) (h0 : 0 ≤ frm) (h1 : frm ≤ gsz d.f d.wd zs) (hb0 : -9223372036854775808 ≤ by_) (hb1 : by_ ≤ 9223372036854775807) :
    Calls Try.prog 43 #[.pointer (some ⟨d.k, 0, none⟩), .int .i64 frm, .int .i64 by_] w fun e w' => e = .returned (.tuple #[]) ∧ StR w { d with pl := mvN (gsz d.f d.wd zs) frm by_ } w' := by
  obtain ⟨c0, c1, c2, c3, c4, c5, c6, z0⟩ := hs.cells
  have hfew := hg.few d.wd
  have hfewN := hfew
  have HC : Hid (∀ w1, Dr w w1 → SBox w1 d) := hidden (fun w1 h => hs.later h.below)
  have HS := hidden (osize_any d hs hg)
  have HEND : Hid (∀ w1 p, Dr w w1 → p = ((mvN (gsz d.f d.wd zs) frm by_ : Nat) : Int) → StR w { d with pl := mvN (gsz d.f d.wd zs) frm by_ } (w1.setCell ⟨d.k, 4, none⟩ (.int .i64 p))) := hidden (fun w1 p h e => by
    subst e
    have f0 : Fm w w1 (fun k => k = d.k) (fun k => k = d.k) := Dr.fm h
    exact ⟨(HC.out w1 h).set4 _, f0.set d.k 4 _ rfl⟩)
  have HZ : Hid (∀ w1, Dr w w1 → w1.frozen? ⟨d.k, 4, none⟩ = false ∧ w1.cell? ⟨d.k, 4, none⟩ = some (.int .i64 d.pl)) := hidden (by rintro w1 ⟨m, rfl⟩; exact ⟨z0 4, c4⟩)
  have q1 : IntKind.i64.wrap (-frm) = -frm := by rw [IntKind.wrap_i64]; omega
  have q2 : IntKind.i64.wrap ((gsz d.f d.wd zs : Nat) - frm : Int) = (gsz d.f d.wd zs : Nat) - frm := by rw [IntKind.wrap_i64]; omega
  have q3 : IntKind.i64.wrap (frm + min (max by_ (-frm)) ((gsz d.f d.wd zs : Nat) - frm)) = ((mvN (gsz d.f d.wd zs) frm by_ : Nat) : Int) := by
    unfold mvN
    rw [IntKind.wrap_i64]; omega
  clear hs hg hfew c0 c1 c2 c3 c5 c6
  have HPV : Hid (((mvN (gsz d.f d.wd zs) frm by_ : Nat) : Int) = frm + min (max by_ (-frm)) ((gsz d.f d.wd zs : Nat) - frm)) := hidden (by unfold mvN; omega)
  have HFW : Hid (gsz d.f d.wd zs ≤ 4000000) := hidden hfewN
  generalize mvN (gsz d.f d.wd zs) frm by_ = P at *
  generalize gsz d.f d.wd zs = N at *
  go_enter Try.func43, Try.ntmps43
  go_wp2_with (first | (go_at_call 29; refine HS.out.mono ?_; rintro e w5 ⟨rfl, hd⟩; have HD := hidden hd; obtain ⟨i0, i1⟩ := HZ.out _ hd; clear hd) | fail)
  all_goals refine bodyPost_end (v := .tuple #[]) (by simp [results, Try.results43, go_sem]) rfl ⟨rfl, HEND.out _ _ HD.out ?_⟩
  all_goals have hpv := HPV.out
  all_goals have hfw := HFW.out
  all_goals first | rfl | assumption | exact q3 | omega | (show IntKind.i64.wrap _ = _; rw [IntKind.wrap_i64]; omega)
theorem left_file (d : Sm) (w : World) (hs : SBox w d) (hf : d.f = true) : Calls Try.prog 34 #[.pointer (some ⟨d.k, 0, none⟩)] w fun e w' => e = .returned (.slice none 0 0) ∧ w' = w := by
  have a1 := fun w => as_ff d.g w
  have a2 := fun w => as_fb d.g w
  have a3 := fun w => as_bb d.g w
  have a4 := fun w => as_bf d.g w
  obtain ⟨c0, c1, c2, c3, c4, c5, c6, z0⟩ := hs.cells
  rw [hf] at c1
  rw [show onV true d.g = .iface 72 (.pointer (some ⟨d.g, 0, none⟩)) from rfl] at c1
  clear hs c0 c2 c3 c4 c5 c6
  go_enter Try.func34, Try.ntmps34
  go_wp2
  go_ret
  exact ⟨rfl, rfl⟩
theorem left_buf {B : Nat} {w : World} {v : Value} {zs : List Int} (d : Sm) (hs : SBox w d) (hf : d.f = false) (hg : BAt B w d.g v zs) : Calls Try.prog 34 #[.pointer (some ⟨d.k, 0, none⟩)] w fun e w' => e = .returned v ∧ w' = w := by
  have a1 := fun w => as_ff d.g w
  have a2 := fun w => as_fb d.g w
  have a3 := fun w => as_bb d.g w
  have a4 := fun w => as_bf d.g w
  obtain ⟨c0, c1, c2, c3, c4, c5, c6, z0⟩ := hs.cells
  obtain ⟨e0, e1⟩ := hg.cell
  obtain ⟨ao, c, rfl⟩ := own_slice hg.row
  rw [hf] at c1
  rw [show onV false d.g = .iface 95 (.pointer (some ⟨d.g, 0, none⟩)) from rfl] at c1
  clear hs c0 c2 c3 c4 c5 c6 hg
  go_enter Try.func34, Try.ntmps34
  go_wp2
  go_ret
  exact ⟨rfl, rfl⟩
/-- does a stream lie on the file with that block? -/
def lieB (d : Sm) (fp : Option Nat) : Bool := d.f && (some d.g == fp)
def ptrF (fp : Option Nat) : Value := .pointer (fp.map fun b => ⟨b, 0, none⟩)
/-- a block that is a file -/
def IsF (w : World) (b : Nat) : Prop := ∃ v, w.heap[b]? = some (.cells #[v] 75 (0, 0))
theorem IsF.later {w w' : World} {b : Nat} (h : IsF w b) (hb : Below w.heap.size w w') : IsF w' b := by
  obtain ⟨v, e⟩ := h
  exact ⟨v, (hb.block b (Array.getElem?_eq_some_iff.1 e).1).trans e⟩
theorem info_file : (Try.prog.info? 75).map (·.size) = some 1 := by kernel_rfl
theorem eql_ff {w : World} {a b : Nat} (ha : IsF w a) (hb : IsF w b) : (binOp .eql 72 (.pointer (some ⟨a, 0, none⟩)) (.pointer (some ⟨b, 0, none⟩))).run Try.prog w = .ok (.bool (decide (a = b))) w := by
  obtain ⟨j, hj, hjs⟩ := Option.map_eq_some_iff.1 info_file
  by_cases h : a = b
  · subst h
    simpa using run_eql_ptr_same (P := Try.prog) w ⟨a, 0, none⟩ Try.underlying72 hj
  · obtain ⟨va, ha⟩ := ha
    obtain ⟨vb, hb⟩ := hb
    simpa [h] using run_eql_ptr_other (P := Try.prog) w (a := ⟨a, 0, none⟩) (b := ⟨b, 0, none⟩) Try.underlying72 hj (by rw [hjs]; decide) (fun e => h (by injection e)) ha hb
theorem liesOn_any (d : Sm) (w : World) (hs : SBox w d) (fp : Option Nat) (h1 : d.f = true → IsF w d.g) (h2 : ∀ b, fp = some b → IsF w b) : Calls Try.prog 59 #[.pointer (some ⟨d.k, 0, none⟩), ptrF fp] w fun e w' => e = .returned (.bool (lieB d fp)) ∧ w' = w := by
  have a1 := fun w => as_ff d.g w
  have a2 := fun w => as_fb d.g w
  have a3 := fun w => as_bb d.g w
  have a4 := fun w => as_bf d.g w
  obtain ⟨c0, c1, c2, c3, c4, c5, c6, z0⟩ := hs.cells
  clear hs c0 c2 c3 c4 c5 c6
  rcases (show d.f = false ∨ d.f = true by cases d.f <;> simp) with hf | hf
  · rw [hf] at c1
    rw [show onV false d.g = .iface 95 (.pointer (some ⟨d.g, 0, none⟩)) from rfl] at c1
    rw [show lieB d fp = false by simp [lieB, hf]]
    clear hf
    go_enter Try.func59, Try.ntmps59
    go_wp2
    go_ret
    exact ⟨rfl, rfl⟩
  · rw [hf] at c1
    rw [show onV true d.g = .iface 72 (.pointer (some ⟨d.g, 0, none⟩)) from rfl] at c1
    cases fp with
    | none =>
      rw [show lieB d none = false by simp [lieB]]
      rw [show ptrF none = .pointer none from rfl]
      clear hf
      go_enter Try.func59, Try.ntmps59
      go_wp2
      go_ret
      exact ⟨rfl, rfl⟩
    | some b =>
      rw [show ptrF (some b) = .pointer (some ⟨b, 0, none⟩) from rfl]
      have hq := eql_ff (h1 hf) (h2 b rfl)
      by_cases hb : d.g = b
      · rw [show lieB d (some b) = true by simp [lieB, hf, hb]]
        rw [decide_eq_true hb] at hq
        subst hb
        clear hf h1 h2
        go_enter Try.func59, Try.ntmps59
        go_wp2
        go_ret
        exact ⟨rfl, rfl⟩
      · rw [show lieB d (some b) = false by simp [lieB, hf, hb]]
        rw [decide_eq_false hb] at hq
        clear hf h1 h2 hb
        go_enter Try.func59, Try.ntmps59
        go_wp2
        go_ret
        exact ⟨rfl, rfl⟩
theorem own_set1 {B E : Nat} {w : World} {g c n : Nat} {xs : List Value} (h : w.ownsRow B E 1 (.slice (some ⟨g, 0, none⟩) n c) n xs) (i : Nat) (u : Value) : (w.setCell ⟨g, i, none⟩ u).ownsRow B E 1 (.slice (some ⟨g, 0, none⟩) n c) n (xs.set i u) := by
  refine ⟨by simpa using h.1, ?_⟩
  rcases h.2 with ⟨h1, _⟩ | ⟨g', cap, cur, h1, h2, h3, h4, h5, h6, h7⟩
  · cases h1
  · simp only [Value.slice.injEq, Option.some.injEq, Addr.mk.injEq, and_true] at h1
    obtain ⟨rfl, _, rfl⟩ := h1
    refine .inr ⟨g, c, cur.setIfInBounds i u, rfl, h2, bkset h3 _ _, h4, h5, by simpa using h6, ?_⟩
    rw [Array.toList_setIfInBounds, List.take_set, h7]
def TB (b : Nat) (v : Value) (k : Nat) : Prop := k = b ∨ v.ownBlock = some k
theorem bput_any {B b : Nat} {w : World} {v : Value} {zs : List Int} (h : BAt B w b v zs) (wide : Bool) (k : Nat) (c : Int) (hc : 0 ≤ c ∧ c ≤ 4294967295) :
    Calls Try.prog 108 #[.pointer (some ⟨b, 0, none⟩), .int .i64 k, .bool wide, .int .u32 c] w fun e w' => e = .returned (.tuple #[]) ∧ BAt B w' b v (zs.set k c) ∧ Fm w w' (TB b v) (TB b v) := by
  obtain ⟨ao, cp, hv⟩ := own_slice h.row
  obtain ⟨c0, z0⟩ := h.cell
  by_cases hk : k < zs.length
  · rcases h.row.2 with ⟨_, h0⟩ | ⟨g, cap, cur, hv2, hbg, hgg, hnc, hcm, _⟩
    · omega
    have hr := h.row
    rw [hv2] at hr c0
    have hcl := hr.cells (g := g) rfl k (.int .u32 (zs.getD k 0)) (by simp [w32V, hk])
    rw [Addr.add_lit, Nat.zero_add] at hcl
    have hfz : w.frozen? ⟨g, k, none⟩ = false := by simp [World.frozen?, hgg]
    have l1 : (k : Int) < zs.length := by omega
    have l0 : (0 : Int) ≤ k := by omega
    have HR : Hid (BAt B (w.setCell ⟨g, k, none⟩ (.int .u32 c)) b v (zs.set k c) ∧ Fm w (w.setCell ⟨g, k, none⟩ (.int .u32 c)) (TB b v) (TB b v)) := hidden (by
      have hne : b ≠ g := fun e => own_neE hr h.box (by decide) (by rw [e]; rfl)
      refine ⟨⟨h.base, by rw [heap_setCell_other _ _ _ _ hne]; exact h.box, ?_, by simpa using h.few, ?_⟩, ?_⟩
      · rw [List.length_set, show w32V (zs.set k c) = (w32V zs).set k (.int .u32 c) by simp [w32V, List.map_set], hv2]
        exact own_set1 hr k _
      · intro z hz
        rcases List.mem_or_eq_of_mem_set hz with q | q
        · exact h.bd z q
        · subst q; exact hc
      · exact (Fm.same (Below.refl _ _)).set g k _ (.inr (by rw [hv2]; rfl)))
    clear h hr hv hv2 hgg
    generalize zs.getD k 0 = V at *
    generalize zs.length = n at *
    go_enter Try.func108, Try.ntmps108
    go_wp2
    refine bodyPost_end (v := .tuple #[]) (by simp [results, Try.results108, go_sem]) rfl ⟨rfl, HR.out⟩
  · have HR : Hid (BAt B w b v (zs.set k c) ∧ Fm w w (TB b v) (TB b v)) := hidden ⟨by rw [List.set_eq_of_length_le (by omega)]; exact h, Fm.same (Below.refl _ _)⟩
    have l1 : ¬ (k : Int) < zs.length := by omega
    rw [hv] at c0
    clear h hv
    generalize zs.length = n at *
    go_enter Try.func108, Try.ntmps108
    go_wp2
    refine bodyPost_end (v := .tuple #[]) (by simp [results, Try.results108, go_sem]) rfl ⟨rfl, HR.out⟩
end Go.Proofs.Ytmohnopegacahaa
