/- Layer 15, the program: a file that is made. -/
import Derived.Test.YtmohnopegacahaaS15v
import Derived.WalkSpells
namespace Go.Proofs.Ytmohnopegacahaa
open Go.RowKit
set_option maxHeartbeats 1000000
set_option maxRecDepth 100000
set_option linter.unusedVariables false

theorem ixf_nil (fv : Value) (w : World) : Calls Try.prog 53 #[.slice none 0 0, fv] w fun e w' => e = .returned (.int .i64 (-1)) ∧ w' = w := by
  go_enter Try.func53, Try.ntmps53
  go_upto_region 2 with fail
  go_loopw [8] (fun i w' => i = .int .i64 0 ∧ w' = w) (fun i _ => 0)
  case atStart => exact ⟨rfl, rfl⟩
  case round =>
    obtain ⟨rfl, rfl⟩ := hrel
    go_wp2
    go_ret
    exact ⟨rfl, rfl⟩
theorem contains_nil (fv : Value) (w : World) : Calls Try.prog 57 #[.slice none 0 0, fv] w fun e w' => e = .returned (.bool false) ∧ w' = w := by
  have HI := hidden (ixf_nil fv w)
  go_enter Try.func57, Try.ntmps57
  go_wp2_with (first | (go_at_call 53; refine HI.out.mono ?_; rintro e w1 ⟨rfl, e1⟩; rw [e1]; clear e1) | fail)
  go_ret
  exact ⟨rfl, rfl⟩
theorem taken_nil {B m : Nat} {w : World} {s : Sh} (h : ShAt B w m s) (hs : s.sv = .slice none 0 0) (fp : Option Nat) (md : Int) :
    Calls Try.prog 42 #[.pointer (some ⟨m, 0, none⟩), ptrF fp, .int .i64 md] w fun e w' => e = .returned (.bool false) ∧ Below w.heap.size w w' := by
  have hml := h.lt
  have HC : Hid (∀ w1, Below w.heap.size w w1 → w1.cell? ⟨m, 3, none⟩ = some (.slice none 0 0)) := hidden (fun w1 hb => by have := (h.later hb).cells.2.2.2.1; rw [hs] at this; exact this)
  have hb : Below w.heap.size w ((w.alloc (.cells #[ptrF fp] 72)).alloc (.cells #[.int .i64 md] 3)) := ((Below.refl _ _).alloc (Nat.le_refl _) _).alloc (by simp) _
  have HB := hidden hb
  have c3 := HC.out _ hb
  have HCN := hidden (fun fv w1 => contains_nil fv w1)
  clear h hs HC hb
  obtain ⟨PF, hPF⟩ : ∃ PF, ptrF fp = .pointer PF := ⟨_, rfl⟩
  rw [hPF] at HB c3 ⊢
  clear hPF
  go_enter Try.func42, Try.ntmps42
  go_upto_region 1 with fail
  generalize (w.alloc (.cells #[.pointer PF] 72)).alloc (.cells #[.int .i64 md] 3) = w2 at *
  go_wp2_with (first | (go_at_call 57; refine (HCN.out _ _).mono ?_; rintro e w3 ⟨rfl, e3⟩; rw [e3]; clear e3) | fail)
  go_ret
  exact ⟨rfl, HB.out⟩
theorem isName_any (nm : ByteArray) (w : World) (h : 1 ≤ nm.size ∧ nm.size ≤ 32) : Calls Try.prog 49 #[.string nm] w fun e w' => e = .returned (.bool true) ∧ w' = w := by
  obtain ⟨h1, h2⟩ := h
  have q1 : (1 : Int) ≤ (nm.size : Int) := by omega
  have q2 : (nm.size : Int) ≤ 32 := by omega
  go_enter Try.func49, Try.ntmps49
  go_wp2
  go_ret
  exact ⟨rfl, rfl⟩
theorem zeroF (w : World) : (zeroValue 72).run Try.prog w = .ok (.pointer none) w := by kernel_rfl
theorem mayOpen_new {B m : Nat} {w : World} {s : Sh} (h : ShAt B w m s) (hs : s.sv = .slice none 0 0) (hf : s.fm = none) (nm : ByteArray) (hn : 1 ≤ nm.size ∧ nm.size ≤ 32) (md : Int) (hm : md = 1 ∨ md = 3 ∨ md = 5) :
    Calls Try.prog 27 #[.pointer (some ⟨m, 0, none⟩), .string nm, .int .i64 md] w fun e w' => e = .returned (.int .i64 0) ∧ Below w.heap.size w w' := by
  obtain ⟨d0, d1, d2, d3, d5⟩ := h.cells
  rw [hs] at d3
  rw [hf] at d1
  have HN := hidden (isName_any nm w hn)
  have HM := hidden (isMode_any md w)
  rw [show mdB md = true by rcases hm with rfl | rfl | rfl <;> rfl] at HM
  have HT := hidden (taken_nil h hs none md)
  rw [show ptrF none = .pointer none from rfl] at HT
  have hlk := Maps.look_nil (P := Try.prog) (w := w) false keyS Try.underlying67 (zeroF w) (WideMaps.keyOf_string_mk Try.underlying9 (show nm.size ≤ maxLen by unfold maxLen; omega))
  have hln := fun ty => Maps.len_nil (P := Try.prog) (w := w) Try.underlying67 ty
  have q2 : (md == 2) = false := by rcases hm with rfl | rfl | rfl <;> rfl
  clear h hs hf hm hn
  go_enter Try.func27, Try.ntmps27
  go_wp2_with (first | (go_at_call 49; refine HN.out.mono ?_; rintro e w1 ⟨rfl, e1⟩; rw [e1]; clear e1) | (go_at_call 44; refine HM.out.mono ?_; rintro e w1 ⟨rfl, e1⟩; rw [e1]; clear e1) | (go_at_call 42; refine HT.out.mono ?_; rintro e w1 ⟨rfl, hb1⟩; have HB1 := hidden hb1; clear hb1) | fail)
  go_ret
  exact ⟨rfl, HB1.out⟩
/-- the map that a shelf has at first -/
def D0 : DataW Unit := .map []
theorem tie_new (nm : List UInt8) (b : Nat) (v : Value) : DTie (D0.put (.string nm) (.lit (.int .i64 (b : Int)))) [⟨nm, b, v, []⟩] := by
  have hm : Maps.IsMap D0 := Maps.isMap_empty
  refine ⟨fun x => ?_, fun x => ?_, ?_, List.pairwise_singleton _ _⟩
  · by_cases e : x = nm
    · subst e
      rw [Maps.atKey_put_same hm (by trivial)]
      simp [findF, encF]
    · rw [Maps.atKey_put_other (fun q => e (by injection q))]
      have : (nm == x) = false := by simp; exact fun q => e q.symm
      simp [findF, this, encF, D0]
      rfl
  · by_cases e : x = nm
    · subst e
      rw [Maps.has_put_same hm (by trivial)]
      simp [findF]
    · rw [Maps.has_put_other (fun q => e (by injection q))]
      have : (nm == x) = false := by simp; exact fun q => e q.symm
      simp [findF, this, D0, Maps.has]
  · rw [Maps.size_put (show Maps.Tidy D0 from Maps.tidy_empty)]
    simp [D0, Maps.has, Maps.size]
def FfR (B : Nat) (w : World) (m : Nat) (s : Sh) (nm : List UInt8) (fb mb : Nat) (w' : World) : Prop := ShAt B w' m { s with fm := some mb, F := [⟨nm, fb, .slice none 0 0, []⟩] } ∧ Fm w w' (fun k => k = m) (fun k => k = m ∨ k = mb ∨ k = fb) ∧ w.heap.size ≤ mb ∧ w.heap.size ≤ fb
set_option maxHeartbeats 4000000 in
theorem fileFor_new {B m : Nat} {w : World} {s : Sh} (h : ShAt B w m s) (hB : B ≤ w.heap.size) (hf : s.fm = none) (nm : ByteArray) (hn : nm.size ≤ 32) :
    Calls Try.prog 28 #[.pointer (some ⟨m, 0, none⟩), .string nm] w fun e w' => ∃ fb mb, e = .returned (.pointer (some ⟨fb, 0, none⟩)) ∧ Hid (FfR B w m s nm.data.toList fb mb w') := by
  obtain ⟨d0, d1, d2, d3, d5⟩ := h.cells
  rw [hf] at d1
  have hmn : ∀ (w : World) (r : Option Nat), (binOp .eql 67 (.map r) (.map none)).run Try.prog w = .ok (.bool r.isNone) w := fun w r => run_eql_map_nil w _ _ _ r Try.underlying67
  have hkey := WideMaps.keyOf_string_mk (s := nm) Try.underlying9 (show nm.size ≤ maxLen by unfold maxLen; omega)
  have hml := h.lt
  have hmg : ¬ m = w.heap.size := by omega
  have hmm : ∀ w1 : World, (Instr.makeMap 67 none).run Try.prog w1 = .ok (.map (some w1.heap.size)) (w1.alloc (.map #[] 0)) := fun w1 => rfl
  have ba : Below w.heap.size w (w.alloc (.map #[] 0)) := (Below.refl _ _).alloc (Nat.le_refl _) _
  have hbm : (w.alloc (.map #[] 0)).heap[m]? = some (.cells #[.int .i64 s.most, .map none, .int .i64 s.last, s.sv] 70 (0, 0)) := by rw [ba.block m hml, h.box, hf]
  have dz : (w.alloc (.map #[] 0)).frozen? ⟨m, 1, none⟩ = false := by simp [World.frozen?, hbm]
  have dc : (w.alloc (.map #[] 0)).cell? ⟨m, 1, none⟩ = some (.map none) := by simp [World.cell?, hbm]
  have H1 : Hid (((w.alloc (.map #[] 0)).setCell ⟨m, 1, none⟩ (.map (some w.heap.size))).heap[m]? = some (.cells #[.int .i64 s.most, .map (some w.heap.size), .int .i64 s.last, s.sv] 70 (0, 0)) ∧ ((w.alloc (.map #[] 0)).setCell ⟨m, 1, none⟩ (.map (some w.heap.size))).ownsMap Try.prog 9 elF w.heap.size 0 D0 ∧ Fm w ((w.alloc (.map #[] 0)).setCell ⟨m, 1, none⟩ (.map (some w.heap.size))) (fun k => k = m) (fun k => k = m) ∧ ((w.alloc (.map #[] 0)).setCell ⟨m, 1, none⟩ (.map (some w.heap.size))).heap.size = w.heap.size + 1) := hidden (by
    refine ⟨by rw [bkset hbm]; rfl, (World.ownsMap_made w Try.prog 9 elF).setCell (fun e => hmg e.symm) _, ?_, by simp⟩
    have f0 : Fm w (w.alloc (.map #[] 0)) (fun k => k = m) (fun k => k = m) := Fm.same ba
    exact f0.set m 1 _ rfl)
  have hcomm : (w.alloc (.map #[] 0)).setCell ⟨m, 1, none⟩ (.map (some w.heap.size)) = (w.setCell ⟨m, 1, none⟩ (.map (some w.heap.size))).alloc (.map #[] 0) := World.setCell_alloc_past _ _ _ _ hml
  rw [hcomm] at H1
  have HH := hidden h
  clear h hbm ba hcomm
  go_enter Try.func28, Try.ntmps28
  go_upto_region 3 with fail
  generalize (w.setCell ⟨m, 1, none⟩ (.map (some w.heap.size))).alloc (.map #[] 0) = w1 at *
  obtain ⟨MB, hMB⟩ : ∃ MB, w.heap.size = MB := ⟨_, rfl⟩
  have HMB := hidden hMB
  rw [hMB] at H1 ⊢
  clear hMB hmg hml d0 d1 d2 d3 d5 dz dc
  have d1 : w1.cell? ⟨m, 1, none⟩ = some (.map (some MB)) := by simp [World.cell?, H1.out.1]
  have hlk : (Instr.lookup 67 (.map (some MB)) (.string nm) false).run Try.prog w1 = .ok (.pointer none) w1 := by
    obtain ⟨v, ps, hrun, hv⟩ := H1.out.2.1.lookup keyS Try.underlying67 (zeroF w1) (zd := .nil) (zp := []) rfl hkey
    obtain ⟨c, rfl⟩ := el_inv hv
    have := el_ptr c hv
    cases c with
    | none => exact hrun
    | some b => cases this
  have hb2 : Below w1.heap.size w1 (w1.alloc (.cells #[.slice none 0 0] 75)) := (Below.refl _ _).alloc (Nat.le_refl _) _
  have HO2 : Hid ((w1.alloc (.cells #[.slice none 0 0] 75)).ownsMap Try.prog 9 elF MB 0 D0) := hidden (H1.out.2.1.alloc _)
  have HFI : Hid (∀ w3, w3.ownsMap Try.prog 9 elF MB 1 (D0.put (.string nm.data.toList) (.lit (.int .i64 (w1.heap.size : Int)))) → (w1.alloc (.cells #[.slice none 0 0] 75)).grownBy w3 (some MB) →
      w3.cell? ⟨m, 1, none⟩ = some (.map (some MB)) ∧ (Instr.lookup 67 (.map (some MB)) (.string nm) false).run Try.prog w3 = .ok (.pointer (some ⟨w1.heap.size, 0, none⟩)) w3 ∧ Hid (FfR B w m s nm.data.toList w1.heap.size MB w3)) := hidden (fun w3 ho hg => by
    obtain ⟨b1, b2, b3, b4⟩ := H1.out
    have hMB := HMB.out
    have hml := HH.out.lt
    have hfb := heap_alloc_new w1 (.cells #[.slice none 0 0] 75)
    have hne1 : some m ≠ some MB := by intro e; injection e with e; omega
    have hne2 : some w1.heap.size ≠ some MB := by intro e; injection e with e; omega
    have hm3 : w3.heap[m]? = some (.cells #[.int .i64 s.most, .map (some MB), .int .i64 s.last, s.sv] 70 (0, 0)) := by
      rw [hg.block m (by have := hb2.size; omega) hne1, hb2.block m (by omega)]; exact b1
    have hf3 : w3.heap[w1.heap.size]? = some (.cells #[.slice none 0 0] 75 (0, 0)) := by
      rw [hg.block w1.heap.size (by simp) hne2]; exact hfb
    have f3 : Fm w w3 (fun k => k = m) (fun k => k = m ∨ k = MB ∨ k = w1.heap.size) := by
      refine ⟨hg.os.trans (hb2.os.trans b3.os), hg.tape.trans (hb2.tape.trans b3.tape), hg.output.trans (hb2.output.trans b3.output), Nat.le_trans b3.size (Nat.le_trans hb2.size hg.size), fun k hk hn => ?_, fun k hk => ?_⟩
      · rw [hg.block k (by have := hb2.size; omega) (by intro e; injection e with e; omega), hb2.block k (by omega)]
        exact b3.block k hk hn
      · rcases hk with e | e | e
        · exact .inl e
        · exact .inr (by omega)
        · exact .inr (by omega)
    have no : ∀ k t, tyAt w k = some t → t ≠ 70 → ¬ k = m := fun k t e1 e2 q => by
      rw [q, ty_box HH.out.box] at e1; simp at e1; exact e2 e1.symm
    refine ⟨by simp [World.cell?, hm3], ?_, hidden ⟨⟨HH.out.base, hm3, ?_, ?_, ?_, ?_, ?_⟩, f3, by omega, by omega⟩⟩
    · obtain ⟨v, ps, hrun, hv⟩ := ho.lookup keyS Try.underlying67 (zeroF w3) (zd := .nil) (zp := []) rfl hkey
      rw [Maps.atKey_put_same (show Maps.IsMap D0 from Maps.isMap_empty) (by trivial)] at hv
      obtain ⟨c, rfl⟩ := el_inv hv
      have := el_ptr c hv
      cases c with
      | none => cases this
      | some b =>
        simp only at this
        injection this with this
        injection this with _ this
        have e : b = w1.heap.size := by omega
        subst e
        exact hrun
    · exact own_fm f3 HH.out.row (fun k e => no k _ (ty_row HH.out.row e) (by decide))
    · intro d hd
      exact ⟨(HH.out.ss d hd).1, (HH.out.ss d hd).2.fm f3 (no _ _ (ty_box (HH.out.ss d hd).2) (by decide))⟩
    · intro x hx
      rw [List.mem_singleton] at hx
      subst hx
      exact ⟨by show B ≤ w1.heap.size; omega, hf3, World.ownsRow_nil _ _ _ _, by simp, by simp⟩
    · intro d hd
      exact (HH.out.gs d hd).fm f3 (no _ _ (ty_box (HH.out.gs d hd).box) (by decide)) (fun k e => no _ _ (ty_row (HH.out.gs d hd).row e) (by decide))
    · exact ⟨by omega, 1, _, by omega, ho, tie_new _ _ _⟩)
  have HKY := hidden hkey
  clear hb2 H1 HH HMB hB hn hkey hf
  go_wp2_with (first | (at_mapUpdate; refine wpList_mapUpdate_own _ rfl _ _ _ 67 rfl 9 72 keyS Try.underlying67 elF MB 0 D0 rfl HO2.out (by unfold maxLen; omega) _ _ _ rfl rfl HKY.out (.lit (.int .i64 (w1.heap.size : Int))) [] (by rfl) ?_; intro w3 ho3 hg3; obtain ⟨i1, i2, HF⟩ := HFI.out _ ho3 hg3; clear ho3 hg3) | fail)
  go_ret
  exact ⟨_, MB, rfl, HF⟩
end Go.Proofs.Ytmohnopegacahaa
