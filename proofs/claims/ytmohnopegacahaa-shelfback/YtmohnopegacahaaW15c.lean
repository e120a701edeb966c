/- Layer 15, the program: the file of a name, which is made if it is not there. -/
import Derived.Test.YtmohnopegacahaaW15b
namespace Go.Proofs.Ytmohnopegacahaa
open Go.RowKit
set_option maxHeartbeats 1000000
set_option maxRecDepth 100000
set_option linter.unusedVariables false

theorem map_tight {w : World} {b n : Nat} {D : DataW Unit} (h : w.ownsMap Try.prog 9 elF b n D) : w.ownsMap Try.prog 9 elF b (Maps.size D) D := by
  obtain ⟨es, cl, h1, h2, h3, h4⟩ := h
  refine ⟨es, cl, h1, h2, ?_, h4⟩
  rw [h4, Maps.size_eq, Go.length_sorted, List.length_map]
  simp
theorem tie_more {D : DataW Unit} {F : List Fl} (t : DTie D F) (ht : Maps.Tidy D) (nm : List UInt8) (hn : findF F nm = none) (b : Nat) (v : Value) (zs : List Int) : DTie (D.put (.string nm) (.lit (.int .i64 (b : Int)))) (F ++ [⟨nm, b, v, zs⟩]) := by
  have hm : Maps.IsMap D := ht.isMap
  have hfa : ∀ x, findF (F ++ [⟨nm, b, v, zs⟩]) x = if x = nm then some ⟨nm, b, v, zs⟩ else findF F x := fun x => by
    unfold findF at hn ⊢
    rw [List.find?_append]
    by_cases e : x = nm
    · subst e
      rw [if_pos rfl, hn]
      simp
    · rw [if_neg e]
      have e2 : (nm == x) = false := by simp; exact fun q => e q.symm
      simp [e2]
  refine ⟨fun x => ?_, fun x => ?_, ?_, ?_⟩
  · rw [hfa]
    by_cases e : x = nm
    · subst e
      rw [if_pos rfl, Maps.atKey_put_same hm (by trivial)]
      rfl
    · rw [if_neg e, Maps.atKey_put_other (fun q => e (by injection q))]
      exact t.at_ x
  · rw [hfa]
    by_cases e : x = nm
    · subst e
      rw [if_pos rfl, Maps.has_put_same hm (by trivial)]
      rfl
    · rw [if_neg e, Maps.has_put_other (fun q => e (by injection q))]
      exact t.has x
  · rw [Maps.size_put ht, t.has, hn, t.size]
    simp
  · rw [List.pairwise_append]
    refine ⟨t.nd, List.pairwise_singleton _ _, fun a ha c hc => ?_⟩
    rw [List.mem_singleton] at hc
    subst hc
    have := List.find?_eq_none.1 hn a ha
    simpa using this
/-- a file more, which has no bytes -/
def mkF (s : Sh) (nm : List UInt8) (fb mb : Nat) : Sh := { s with fm := some mb, F := s.F ++ [⟨nm, fb, .slice none 0 0, []⟩] }
def FfN (B : Nat) (w : World) (m : Nat) (s : Sh) (nm : List UInt8) (fb mb : Nat) (w' : World) : Prop := ShAt B w' m (mkF s nm fb mb) ∧ Fm w w' (fun k => k = m ∨ s.fm = some k) (fun k => k = m ∨ k = mb ∨ k = fb) ∧ (s.fm = some mb ∨ w.heap.size ≤ mb) ∧ w.heap.size ≤ fb
theorem FfN.ts {B m fb mb : Nat} {w w' : World} {s : Sh} {nm : List UInt8} (h : FfN B w m s nm fb mb w') : Fm w w' (TS m s) (TS m (mkF s nm fb mb)) := by
  obtain ⟨_, f, h1, h2⟩ := h
  refine ⟨f.os, f.tape, f.output, f.size, fun k hk hn => f.block k hk (fun e => ?_), fun k hk => ?_⟩
  · rcases e with e | e
    · exact hn (.inl e)
    · exact hn (.inr (.inl e))
  · rcases hk with e | e | e | e | ⟨x, hx, e⟩ | e
    · exact .inl (.inl e)
    · injection e with e
      subst e
      rcases h1 with q | q
      · exact .inl (.inr (.inl q))
      · exact .inr q
    · exact .inl (.inr (.inr (.inl e)))
    · exact .inl (.inr (.inr (.inr (.inl e))))
    · rcases List.mem_append.1 hx with q | q
      · exact .inl (.inr (.inr (.inr (.inr (.inl ⟨x, q, e⟩)))))
      · rw [List.mem_singleton] at q
        subst q
        rcases e with e | e
        · have e : k = fb := e
          exact .inr (by omega)
        · cases e
    · exact .inl (.inr (.inr (.inr (.inr (.inr e)))))
theorem mkF_ok {B m fb mb : Nat} {w : World} {s : Sh} {nm : List UInt8} (h : ShAt B w m s) (ok : OkS s) (hfb : w.heap.size ≤ fb) : OkS (mkF s nm fb mb) := by
  refine ⟨ok.sk, ok.so, ok.few, ?_, ok.gk, fun d hd => ⟨fun q => ?_, (ok.on d hd).2⟩, ok.last0, ok.low, ok.most0⟩
  · show (s.F ++ [_]).Pairwise _
    rw [List.pairwise_append]
    refine ⟨ok.fk, List.pairwise_singleton _ _, fun a ha c hc => ?_⟩
    rw [List.mem_singleton] at hc
    subst hc
    have h1 := (h.low a.b (.inr (.inr (.inr (.inr (.inl ⟨a, ha, .inl rfl⟩)))))).2
    exact ⟨by show a.b ≠ fb; omega, fun k _ e => by cases e⟩
  · obtain ⟨f, hf, e⟩ := (ok.on d hd).1 q
    exact ⟨f, List.mem_append_left _ hf, e⟩
theorem fileFor_some {B m : Nat} {w : World} {s : Sh} (h : ShAt B w m s) (nm : ByteArray) (hn : nm.size ≤ maxLen) (b : Nat) (hb : lookB s nm = some b) :
    Calls Try.prog 28 #[.pointer (some ⟨m, 0, none⟩), .string nm] w fun e w' => e = .returned (.pointer (some ⟨b, 0, none⟩)) ∧ w' = w := by
  obtain ⟨d0, d1, d2, d3, d5⟩ := h.cells
  have hlk := look_any h nm hn
  rw [hb] at hlk
  rw [show ptrF (some b) = .pointer (some ⟨b, 0, none⟩) from rfl] at hlk
  obtain ⟨mb, hmb⟩ : ∃ mb, s.fm = some mb := by
    cases hq : s.fm with
    | some mb => exact ⟨mb, rfl⟩
    | none =>
      have := h.mp
      rw [hq] at this
      have hF : s.F = [] := this
      unfold lookB at hb
      rw [hF] at hb
      cases hb
  rw [hmb] at d1 hlk
  have hmn : ∀ (w : World) (r : Option Nat), (binOp .eql 67 (.map r) (.map none)).run Try.prog w = .ok (.bool r.isNone) w := fun w r => run_eql_map_nil w _ _ _ r Try.underlying67
  clear h hn hb hmb
  go_enter Try.func28, Try.ntmps28
  go_wp2
  go_ret
  exact ⟨rfl, rfl⟩
set_option maxHeartbeats 4000000 in
theorem fileFor_more {B m : Nat} {w : World} {s : Sh} (h : ShAt B w m s) (hB : B ≤ w.heap.size) (MB : Nat) (hf : s.fm = some MB) (nm : ByteArray) (hn : nm.size ≤ maxLen) (hno : lookB s nm = none) (hfew : s.F.length ≤ 1000) :
    Calls Try.prog 28 #[.pointer (some ⟨m, 0, none⟩), .string nm] w fun e w' => ∃ fb mb, e = .returned (.pointer (some ⟨fb, 0, none⟩)) ∧ Hid (FfN B w m s nm.data.toList fb mb w') := by
  obtain ⟨d0, d1, d2, d3, d5⟩ := h.cells
  have hlk := look_any h nm hn
  rw [hno] at hlk
  rw [show ptrF none = .pointer none from rfl] at hlk
  rw [hf] at d1 hlk
  have hmn : ∀ (w : World) (r : Option Nat), (binOp .eql 67 (.map r) (.map none)).run Try.prog w = .ok (.bool r.isNone) w := fun w r => run_eql_map_nil w _ _ _ r Try.underlying67
  have hkey := WideMaps.keyOf_string_mk (s := nm) Try.underlying9 hn
  have hml := h.lt
  have hmp := h.mp
  rw [hf] at hmp
  obtain ⟨hMB0, n0, D, _, hown0, tie⟩ := hmp
  have hown := map_tight hown0
  rw [tie.size] at hown
  have htidy := hown.tidy keyS
  have hMBl := hown.lt
  have hno2 : findF s.F nm.data.toList = none := by
    unfold lookB at hno
    cases hq : findF s.F nm.data.toList with
    | none => rfl
    | some f => rw [hq] at hno; cases hno
  have hmMB : m ≠ MB := fun e => by
    have h1 := ty_box h.box
    have h2 := map_ty h.mp (show s.fm = some m by rw [hf, e])
    rw [h1] at h2; cases h2
  have hb2 : Below w.heap.size w (w.alloc (.cells #[.slice none 0 0] 75)) := (Below.refl _ _).alloc (Nat.le_refl _) _
  have HO2 : Hid ((w.alloc (.cells #[.slice none 0 0] 75)).ownsMap Try.prog 9 elF MB s.F.length D) := hidden (hown.alloc _)
  have HC2 : Hid ((w.alloc (.cells #[.slice none 0 0] 75)).cell? ⟨m, 1, none⟩ = some (.map (some MB))) := hidden (by have := (h.later hb2).cells.2.1; rw [hf] at this; exact this)
  have HFI : Hid (∀ w3, w3.ownsMap Try.prog 9 elF MB (s.F.length + 1) (D.put (.string nm.data.toList) (.lit (.int .i64 (w.heap.size : Int)))) → (w.alloc (.cells #[.slice none 0 0] 75)).grownBy w3 (some MB) →
      w3.cell? ⟨m, 1, none⟩ = some (.map (some MB)) ∧ (Instr.lookup 67 (.map (some MB)) (.string nm) false).run Try.prog w3 = .ok (.pointer (some ⟨w.heap.size, 0, none⟩)) w3 ∧ Hid (FfN B w m s nm.data.toList w.heap.size MB w3)) := hidden (fun w3 ho hg => by
    have hfb := heap_alloc_new w (.cells #[.slice none 0 0] 75)
    have hne1 : some m ≠ some MB := by intro e; injection e with e; exact hmMB e
    have hne2 : some w.heap.size ≠ some MB := by intro e; injection e with e; omega
    have hs2 := hb2.size
    have hm3 : w3.heap[m]? = w.heap[m]? := by rw [hg.block m (by omega) hne1, hb2.block m (by omega)]
    have hf3 : w3.heap[w.heap.size]? = some (.cells #[.slice none 0 0] 75 (0, 0)) := by rw [hg.block w.heap.size (by simp) hne2]; exact hfb
    have f3 : Fm w w3 (fun k => k = m ∨ s.fm = some k) (fun k => k = m ∨ k = MB ∨ k = w.heap.size) := by
      refine ⟨hg.os.trans hb2.os, hg.tape.trans hb2.tape, hg.output.trans hb2.output, Nat.le_trans hb2.size hg.size, fun k hk hn => ?_, fun k hk => ?_⟩
      · rw [hg.block k (by omega) (by intro e; exact hn (.inr (by rw [hf, ← e]))), hb2.block k hk]
      · rcases hk with e | e | e
        · exact .inl (.inl e)
        · exact .inl (.inr (by rw [hf, e]))
        · exact .inr (by omega)
    have f4 : Fm w w3 (fun k => k = MB) (fun k => k = MB) := ⟨f3.os, f3.tape, f3.output, f3.size, fun k hk hn => by rw [hg.block k (by omega) (by intro e; injection e with e; exact hn e), hb2.block k hk], fun k hk => .inl hk⟩
    have no : ∀ k t, tyAt w k = some t → ¬ k = MB := fun k t e1 q => by
      have h2 := map_ty h.mp (show s.fm = some k by rw [hf, q])
      rw [e1] at h2; cases h2
    refine ⟨?_, ?_, hidden ⟨⟨h.base, ?_, ?_, ?_, ?_, ?_, ?_⟩, f3, .inl hf, Nat.le_refl _⟩⟩
    · rw [World.cell?_of_block hm3]; exact d1
    · obtain ⟨v, ps, hrun, hv⟩ := ho.lookup keyS Try.underlying67 (zeroF w3) (zd := .nil) (zp := []) rfl hkey
      rw [Maps.atKey_put_same htidy.isMap (by trivial)] at hv
      obtain ⟨c, rfl⟩ := el_inv hv
      have := el_ptr c hv
      cases c with
      | none => cases this
      | some b =>
        simp only at this
        injection this with this
        injection this with _ this
        have e : b = w.heap.size := by omega
        subst e
        exact hrun
    · rw [hm3, h.box, hf]; rfl
    · exact own_fm f4 h.row (fun k e => no k _ (ty_row h.row e))
    · intro d hd
      exact ⟨(h.ss d hd).1, (h.ss d hd).2.fm f4 (no _ _ (ty_box (h.ss d hd).2))⟩
    · intro x hx
      rcases List.mem_append.1 hx with q | q
      · exact (h.fs x q).fm f4 (no _ _ (ty_box (h.fs x q).box)) (fun k e => no _ _ (ty_row (h.fs x q).row e))
      · rw [List.mem_singleton] at q
        subst q
        exact ⟨hB, hf3, World.ownsRow_nil _ _ _ _, by simp, by simp⟩
    · intro d hd
      exact (h.gs d hd).fm f4 (no _ _ (ty_box (h.gs d hd).box)) (fun k e => no _ _ (ty_row (h.gs d hd).row e))
    · exact ⟨hMB0, _, _, by omega, ho, tie_more tie htidy _ hno2 _ _ _⟩)
  have HKY := hidden hkey
  clear hb2 h hB hn hkey hf hno hno2 tie hown hown0 htidy hMB0 hMBl hmMB
  go_enter Try.func28, Try.ntmps28
  have i0 := HC2.out
  go_wp2_with (first | (at_mapUpdate; refine wpList_mapUpdate_own _ rfl _ _ _ 67 rfl 9 72 keyS Try.underlying67 elF MB s.F.length D rfl HO2.out (by unfold maxLen; omega) _ _ _ rfl rfl HKY.out (.lit (.int .i64 (w.heap.size : Int))) [] (by rfl) ?_; intro w3 ho3 hg3; obtain ⟨i1, i2, HF⟩ := HFI.out _ ho3 hg3; clear ho3 hg3) | fail)
  go_ret
  exact ⟨_, MB, rfl, HF⟩
theorem fileFor_none {B m : Nat} {w : World} {s : Sh} (h : ShAt B w m s) (ok : OkS s) (hB : B ≤ w.heap.size) (nm : ByteArray) (hn : nm.size ≤ 32) (hno : lookB s nm = none) (hfew : s.F.length ≤ 1000) :
    Calls Try.prog 28 #[.pointer (some ⟨m, 0, none⟩), .string nm] w fun e w' => ∃ fb mb, e = .returned (.pointer (some ⟨fb, 0, none⟩)) ∧ Hid (FfN B w m s nm.data.toList fb mb w') := by
  cases hfm : s.fm with
  | some mb => exact fileFor_more h hB mb hfm nm (by unfold maxLen; omega) hno hfew
  | none =>
    refine (fileFor_new h hB hfm nm hn).mono ?_
    rintro e w' ⟨fb, mb, rfl, H⟩
    obtain ⟨h1, h2, h3, h4⟩ := H.out
    have hm := h.mp
    rw [hfm] at hm
    have hF : s.F = [] := hm
    refine ⟨fb, mb, rfl, hidden ⟨?_, h2.to (fun k e => .inl e) (fun k e => ?_), .inr h3, h4⟩⟩
    · unfold mkF; rw [hF]; exact h1
    · rcases e with e | e | e
      · exact .inl (.inl e)
      · exact .inr (.inr (.inl e))
      · exact .inr (.inr (.inr e))
end Go.Proofs.Ytmohnopegacahaa
