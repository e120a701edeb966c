/- Layer 15, the program: Put; Delete that is refused. -/
import Derived.Test.YtmohnopegacahaaW15e
namespace Go.Proofs.Ytmohnopegacahaa
open Go.RowKit
set_option maxHeartbeats 1000000
set_option maxRecDepth 100000
set_option linter.unusedVariables false

/-- why a file of that name cannot have n bytes -/
def mayPutE (s : Sh) (nm : ByteArray) (n : Nat) : Int :=
  if nmB nm = false then 1 else if takenB s (lookB s nm) 1 = true then 6
  else if lookB s nm = none ∧ 64 ≤ s.F.length then 4
  else if decide ((n : Int) ≤ s.most - (bbF s.F (lookB s nm) : Nat)) = false then 7 else 0
set_option maxHeartbeats 4000000 in
theorem mayPut_any {B m : Nat} {w : World} {s : Sh} (h : ShAt B w m s) (ok : OkS s) (hsum : sumF s.F ≤ 4000000) (nm : ByteArray) (hn : nm.size ≤ maxLen) (n : Nat) (hn8 : n ≤ 8000000) :
    Calls Try.prog 40 #[.pointer (some ⟨m, 0, none⟩), .string nm, .int .i64 n] w fun e w' => e = .returned (.int .i64 (mayPutE s nm n)) ∧ Below w.heap.size w w' := by
  obtain ⟨d0, d1, d2, d3, d5⟩ := h.cells
  have HN := hidden (isName_all nm w)
  have hlk := look_any h nm hn
  have HLN : Hid (∀ w1, Below w.heap.size w w1 → (∀ ty, (Builtin.len_ #[67] ty #[.map s.fm]).run Try.prog w1 = .ok (.int .i64 (s.F.length : Nat)) w1) ∧ w1.cell? ⟨m, 1, none⟩ = some (.map s.fm)) := hidden (fun w1 hb => ⟨fun ty => len_files (h.later hb) ty, (h.later hb).cells.2.1⟩)
  have hfile : ∀ b, lookB s nm = some b → IsF w b := fun b e => by
    obtain ⟨f, hf, e2, _⟩ := look_in e
    rw [← e2]
    exact ⟨_, (h.fs f hf).box⟩
  have HT := hidden (taken_any h ok (lookB s nm) hfile 1)
  have HMH : Hid (∀ w1, Below w.heap.size w w1 → Calls Try.prog 54 #[.pointer (some ⟨m, 0, none⟩), ptrF (lookB s nm), .int .i64 n] w1 fun e w' => e = .returned (.bool (decide ((n : Int) ≤ s.most - (bbF s.F (lookB s nm) : Nat)))) ∧ Hid (Below w.heap.size w w')) := hidden (fun w1 hb => (mayHave_any (h.later hb) ok (lookB s nm) (fun b e => (hfile b e).later hb) hsum n hn8).mono (fun e w' hh => ⟨hh.1, hidden (hb.trans (hh.2.mono hb.size))⟩))
  unfold mayPutE
  clear h ok hn hsum hn8 hfile
  generalize decide ((n : Int) ≤ s.most - (bbF s.F (lookB s nm) : Nat)) = MH at *
  generalize s.F.length = NF at *
  generalize s.fm = FM at *
  generalize takenB s (lookB s nm) 1 = TK at *
  generalize lookB s nm = LB at *
  generalize nmB nm = NB at *
  cases NB with
  | false =>
    rw [if_pos rfl]
    clear HT HMH HLN
    go_enter Try.func40, Try.ntmps40
    go_wp2_with (first | (go_at_call 49; refine HN.out.mono ?_; rintro e w1 ⟨rfl, e1⟩; rw [e1]; clear e1) | (go_at_call 42; refine HT.out.mono ?_; rintro e w1 ⟨rfl, hb1⟩; have HB1 := hidden hb1; obtain ⟨hln, i1⟩ := HLN.out _ hb1; clear hb1) | (go_at_call 54; refine (HMH.out _ HB1.out).mono ?_; rintro e w2 ⟨rfl, HB2⟩) | fail)
    go_ret
    exact ⟨rfl, Below.refl _ _⟩
  | true =>
  rw [if_neg (by decide)]
  cases TK with
  | true =>
    rw [if_pos rfl]
    cases LB with
    | none =>
      rw [show ptrF none = .pointer none from rfl] at *
      go_enter Try.func40, Try.ntmps40
      go_wp2_with (first | (go_at_call 49; refine HN.out.mono ?_; rintro e w1 ⟨rfl, e1⟩; rw [e1]; clear e1) | (go_at_call 42; refine HT.out.mono ?_; rintro e w1 ⟨rfl, hb1⟩; have HB1 := hidden hb1; obtain ⟨hln, i1⟩ := HLN.out _ hb1; clear hb1) | (go_at_call 54; refine (HMH.out _ HB1.out).mono ?_; rintro e w2 ⟨rfl, HB2⟩) | fail)
      go_ret
      exact ⟨rfl, HB1.out⟩
    | some b =>
      rw [show ptrF (some b) = .pointer (some ⟨b, 0, none⟩) from rfl] at *
      go_enter Try.func40, Try.ntmps40
      go_wp2_with (first | (go_at_call 49; refine HN.out.mono ?_; rintro e w1 ⟨rfl, e1⟩; rw [e1]; clear e1) | (go_at_call 42; refine HT.out.mono ?_; rintro e w1 ⟨rfl, hb1⟩; have HB1 := hidden hb1; obtain ⟨hln, i1⟩ := HLN.out _ hb1; clear hb1) | (go_at_call 54; refine (HMH.out _ HB1.out).mono ?_; rintro e w2 ⟨rfl, HB2⟩) | fail)
      go_ret
      exact ⟨rfl, HB1.out⟩
  | false =>
  rw [if_neg (by decide)]
  cases LB with
  | none =>
    rw [show ptrF none = .pointer none from rfl] at *
    by_cases hf : 64 ≤ NF
    · rw [if_pos ⟨rfl, hf⟩]
      have q3 : (NF : Int) ≥ 64 := by omega
      clear hf
      go_enter Try.func40, Try.ntmps40
      go_wp2_with (first | (go_at_call 49; refine HN.out.mono ?_; rintro e w1 ⟨rfl, e1⟩; rw [e1]; clear e1) | (go_at_call 42; refine HT.out.mono ?_; rintro e w1 ⟨rfl, hb1⟩; have HB1 := hidden hb1; obtain ⟨hln, i1⟩ := HLN.out _ hb1; clear hb1) | (go_at_call 54; refine (HMH.out _ HB1.out).mono ?_; rintro e w2 ⟨rfl, HB2⟩) | fail)
      go_ret
      exact ⟨rfl, HB1.out⟩
    · rw [if_neg (fun q => hf q.2)]
      have q3 : ¬ (NF : Int) ≥ 64 := by omega
      clear hf
      cases MH with
      | false =>
        rw [if_pos rfl]
        go_enter Try.func40, Try.ntmps40
        go_wp2_with (first | (go_at_call 49; refine HN.out.mono ?_; rintro e w1 ⟨rfl, e1⟩; rw [e1]; clear e1) | (go_at_call 42; refine HT.out.mono ?_; rintro e w1 ⟨rfl, hb1⟩; have HB1 := hidden hb1; obtain ⟨hln, i1⟩ := HLN.out _ hb1; clear hb1) | (go_at_call 54; refine (HMH.out _ HB1.out).mono ?_; rintro e w2 ⟨rfl, HB2⟩) | fail)
        go_ret
        exact ⟨rfl, HB2.out⟩
      | true =>
        rw [if_neg (by decide)]
        go_enter Try.func40, Try.ntmps40
        go_wp2_with (first | (go_at_call 49; refine HN.out.mono ?_; rintro e w1 ⟨rfl, e1⟩; rw [e1]; clear e1) | (go_at_call 42; refine HT.out.mono ?_; rintro e w1 ⟨rfl, hb1⟩; have HB1 := hidden hb1; obtain ⟨hln, i1⟩ := HLN.out _ hb1; clear hb1) | (go_at_call 54; refine (HMH.out _ HB1.out).mono ?_; rintro e w2 ⟨rfl, HB2⟩) | fail)
        go_ret
        exact ⟨rfl, HB2.out⟩
  | some b =>
    rw [show ptrF (some b) = .pointer (some ⟨b, 0, none⟩) from rfl] at *
    rw [if_neg (fun q => by cases q.1)]
    cases MH with
    | false =>
      rw [if_pos rfl]
      go_enter Try.func40, Try.ntmps40
      go_wp2_with (first | (go_at_call 49; refine HN.out.mono ?_; rintro e w1 ⟨rfl, e1⟩; rw [e1]; clear e1) | (go_at_call 42; refine HT.out.mono ?_; rintro e w1 ⟨rfl, hb1⟩; have HB1 := hidden hb1; obtain ⟨hln, i1⟩ := HLN.out _ hb1; clear hb1) | (go_at_call 54; refine (HMH.out _ HB1.out).mono ?_; rintro e w2 ⟨rfl, HB2⟩) | fail)
      go_ret
      exact ⟨rfl, HB2.out⟩
    | true =>
      rw [if_neg (by decide)]
      go_enter Try.func40, Try.ntmps40
      go_wp2_with (first | (go_at_call 49; refine HN.out.mono ?_; rintro e w1 ⟨rfl, e1⟩; rw [e1]; clear e1) | (go_at_call 42; refine HT.out.mono ?_; rintro e w1 ⟨rfl, hb1⟩; have HB1 := hidden hb1; obtain ⟨hln, i1⟩ := HLN.out _ hb1; clear hb1) | (go_at_call 54; refine (HMH.out _ HB1.out).mono ?_; rintro e w2 ⟨rfl, HB2⟩) | fail)
      go_ret
      exact ⟨rfl, HB2.out⟩
/-- a file that has other bytes -/
def layS (s : Sh) (b : Nat) (v : Value) (zs : List Int) : Sh := { s with F := updF s.F b v zs }
theorem ShAt.layF {B m n : Nat} {w : World} {s : Sh} (h : ShAt B w m s) (ok : OkS s) (f0 : Fl) (hf0 : f0 ∈ s.F) (v' : Value) (zs : List Int) (hn : zs.length = n) (ho : w.ownsRow B 5 1 v' n (bytesV zs)) (hap : ∀ k, v'.ownBlock = some k → ¬ TS m s k) (hfew : n ≤ 4000000) (hbd : ∀ z ∈ zs, 0 ≤ z ∧ z ≤ 255) :
    ShAt B (w.setCell ⟨f0.b, 0, none⟩ v') m (layS s f0.b v' zs) ∧ OkS (layS s f0.b v' zs) ∧ Fm w (w.setCell ⟨f0.b, 0, none⟩ v') (fun k => k = f0.b) (fun k => k = f0.b) := by
  subst hn
  have hfa := h.fs f0 hf0
  have fz : Fm w w (fun k => k = f0.b) (fun k => k = f0.b) := Fm.same (Below.refl _ _)
  have f := fz.set f0.b 0 v' rfl
  have hty := ty_box hfa.box
  have no : ∀ k t, tyAt w k = some t → t ≠ 75 → ¬ k = f0.b := fun k t e1 e2 q => by rw [q, hty] at e1; simp at e1; exact e2 e1.symm
  refine ⟨h.part f (fun k e => ?_) rfl rfl rfl rfl rfl rfl (h.mp.upd _ _ _) ?_ ?_ ?_, ⟨ok.sk, ok.so, ok.few, ?_, ok.gk, fun d hd => ⟨fun q => ?_, (ok.on d hd).2⟩, ok.last0, ok.low, ok.most0⟩, f⟩
  · subst e; rw [hty]; exact ⟨by decide, by decide, by simp⟩
  · intro d hd
    exact ⟨(h.ss d hd).1, (h.ss d hd).2.fm f (no _ _ (ty_box (h.ss d hd).2) (by decide))⟩
  · intro x hx
    obtain ⟨y, hy, rfl⟩ := List.mem_map.1 hx
    by_cases e : y.b = f0.b
    · simp only [e, ↓reduceIte]
      exact ⟨hfa.base, by rw [bkset hfa.box]; rfl, ownsRow_setCell_other ho (by simpa using own_neE ho hfa.box (by decide)) _, hfew, hbd⟩
    · simp only [e, ↓reduceIte]
      exact (h.fs y hy).fm f e (fun k e2 => no _ _ (ty_row (h.fs y hy).row e2) (by decide))
  · intro d hd
    exact (h.gs d hd).fm f (no _ _ (ty_box (h.gs d hd).box) (by decide)) (fun k e => no _ _ (ty_row (h.gs d hd).row e) (by decide))
  · show (updF s.F f0.b v' zs).Pairwise _
    unfold updF
    rw [List.pairwise_map, List.pairwise_iff_getElem]
    intro a c ha hc hac
    have h0 := List.pairwise_iff_getElem.1 ok.fk a c ha hc hac
    have hx : ∀ y ∈ s.F, ∀ k, v'.ownBlock = some k → y.v.ownBlock ≠ some k := fun y hy k e1 e2 => hap k e1 (.inr (.inr (.inr (.inr (.inl ⟨y, hy, .inr e2⟩)))))
    by_cases e1 : s.F[a].b = f0.b
    · by_cases e2 : s.F[c].b = f0.b
      · exact absurd (e1.trans e2.symm) h0.1
      · simp only [e1, e2, ↓reduceIte]
        exact ⟨fun q => e2 q.symm, fun k q1 q2 => hx _ (List.getElem_mem hc) k q1 q2⟩
    · by_cases e2 : s.F[c].b = f0.b
      · simp only [e1, e2, ↓reduceIte]
        exact ⟨fun q => e1 q, fun k q1 q2 => hx _ (List.getElem_mem ha) k q2 q1⟩
      · simp only [e1, e2, ↓reduceIte]
        exact h0
  · obtain ⟨y, hy, e⟩ := (ok.on d hd).1 q
    exact ⟨_, List.mem_map.2 ⟨y, hy, rfl⟩, by split <;> exact e⟩
def PutR (B : Nat) (w : World) (m : Nat) (s : Sh) (nm : List UInt8) (zs : List Int) (w' : World) : Prop := ∃ b s2 v', Mk s nm b s2 ∧ ShAt B w' m (layS s2 b v' zs) ∧ OkS (layS s2 b v' zs) ∧ Fm w w' (TS m s) (TS m (layS s2 b v' zs))
theorem shput_bad {B m : Nat} {w : World} {s : Sh} (h : ShAt B w m s) (ok : OkS s) (hsum : sumF s.F ≤ 4000000) (nm : ByteArray) (hn : nm.size ≤ maxLen) (a : Option Addr) (n c : Nat) (hn8 : n ≤ 8000000) (E : Int) (hE : mayPutE s nm n = E) (h0 : E ≠ 0) :
    Calls Try.prog 17 #[.pointer (some ⟨m, 0, none⟩), .string nm, .slice a n c] w fun e w' => e = .returned (.int .i64 E) ∧ Below w.heap.size w w' := by
  have HM := hidden (mayPut_any h ok hsum nm hn n hn8)
  rw [hE] at HM
  have n0 : (E != 0) = true := bne_iff_ne.2 h0
  clear h ok hn hE h0 hsum hn8
  go_enter Try.func17, Try.ntmps17
  go_wp2_with (first | (go_at_call 40; refine HM.out.mono ?_; rintro e w2 ⟨rfl, hb2⟩; have HB2 := hidden hb2; clear hb2) | fail)
  go_ret
  exact ⟨rfl, HB2.out⟩
set_option maxHeartbeats 4000000 in
theorem put_good {B m : Nat} {w : World} {s : Sh} (h : ShAt B w m s) (ok : OkS s) (hB : B ≤ w.heap.size) (hsum : sumF s.F ≤ 4000000) (nm : ByteArray) (a : Option Addr) (n c : Nat) (zs : List Int) (hr : Reads w a n c zs) (hn8 : n ≤ 2000000) (hbd : ∀ z ∈ zs, 0 ≤ z ∧ z ≤ 255) (hlo : 0 < n → ∀ y : Addr, a = some y → y.block < B) (hE : mayPutE s nm n = 0) (hfew : s.F.length ≤ 1000) :
    Calls Try.prog 17 #[.pointer (some ⟨m, 0, none⟩), .string nm, .slice a n c] w fun e w' => e = .returned (.int .i64 0) ∧ Hid (PutR B w m s nm.data.toList zs w') := by
  have hnm : nm.size ≤ 32 := by
    unfold mayPutE at hE
    split at hE
    · cases hE
    · rename_i q
      simp only [nmB, decide_eq_false_iff_not] at q
      omega
  have HM := hidden (mayPut_any h ok hsum nm (by unfold maxLen; omega) n (by omega))
  rw [hE] at HM
  have HFF : Hid (∀ w2, Below w.heap.size w w2 → Calls Try.prog 28 #[.pointer (some ⟨m, 0, none⟩), .string nm] w2 fun e w' => ∃ b, e = .returned (.pointer (some ⟨b, 0, none⟩)) ∧ Hid (∃ s2, Mk s nm.data.toList b s2 ∧ ShAt B w' m s2 ∧ OkS s2 ∧ Fm w w' (TS m s) (TS m s2))) := hidden (fun w2 hb => (fileFor_any (h.later hb) ok (Nat.le_trans hB hb.size) nm hnm hfew).mono (by
    rintro e w' ⟨b, rfl, H⟩
    obtain ⟨s2, h1, h2, h3, h4⟩ := H.out
    exact ⟨b, rfl, hidden ⟨s2, h1, h2, h3, (Fm.same hb).trans h4⟩⟩))
  have HCL : Hid (∀ w3 b, (∃ s2, Mk s nm.data.toList b s2 ∧ ShAt B w3 m s2 ∧ OkS s2 ∧ Fm w w3 (TS m s) (TS m s2)) → Calls Try.prog 41 #[.slice a n c] w3 fun e w' => ∃ a' c', e = .returned (.slice a' n c') ∧ w'.frozen? ⟨b, 0, none⟩ = false ∧ (∃ vv, w'.cell? ⟨b, 0, none⟩ = some vv) ∧ Hid (PutR B w m s nm.data.toList zs (w'.setCell ⟨b, 0, none⟩ (.slice a' n c')))) := hidden (fun w3 b hh => by
    obtain ⟨s2, g1, g2, g3, g4⟩ := hh
    obtain ⟨f, hf, e1, e2⟩ := g1.file
    have hr3 : Reads w3 a n c zs := by
      rcases Nat.eq_zero_or_pos n with q | q
      · subst q
        exact ⟨hr.1, hr.2.1, by
          rcases hr.2.2 with z | ⟨x, z1, z2⟩
          · exact .inl z
          · exact .inr ⟨x, z1, fun i hi => by omega⟩⟩
      · exact ⟨hr.1, hr.2.1, by
          rcases hr.2.2 with z | ⟨x, z1, z2⟩
          · exact .inl z
          · refine .inr ⟨x, z1, fun i hi => ?_⟩
            have hx := z2 i hi
            have hxb : x.block < B := hlo q x z1
            rw [World.cell?_of_block (show w3.heap[(x.add i).block]? = w.heap[(x.add i).block]? by
              have e3 : (x.add i).block = x.block := by unfold Addr.add; split <;> rfl
              rw [e3]
              exact g4.block x.block (by omega) (fun e => by have := (h.low _ e).1; omega))]
            exact hx⟩
    refine (bclone_any a n c zs w3 hr3 hn8).mono ?_
    rintro e w' ⟨a', c', rfl, ho, hb⟩
    have g2' := g2.later hb
    have hsz := hb.size
    have hlow := g2.low
    obtain ⟨k1, k2, k3⟩ := g2'.layF g3 f hf (.slice a' n c') zs hr.1 (own_base ho (Nat.le_trans hB g4.size)) (fun k e q => by have h1 := (row_lt ho e).1; have h2 := (hlow k q).2; omega) (by omega) hbd
    have hfa := g2'.fs f hf
    rw [e1] at k1 k2 k3
    refine ⟨a', c', rfl, by rw [← e1]; exact hfa.cell.2, ⟨_, by rw [← e1]; exact hfa.cell.1⟩, hidden ⟨b, s2, .slice a' n c', g1, k1, k2, ?_⟩⟩
    have f1 : Fm w w' (TS m s) (TS m s2) := g4.trans (Fm.same hb)
    refine ⟨k3.os.trans f1.os, k3.tape.trans f1.tape, k3.output.trans f1.output, Nat.le_trans f1.size k3.size, fun k hk hn => (k3.block k (by have := f1.size; omega) (fun e => ?_)).trans (f1.block k hk hn), fun k e => ?_⟩
    · rcases f1.row k (.inr (.inr (.inr (.inr (.inl ⟨f, hf, .inl (by rw [e1]; exact e)⟩))))) with q | q
      · exact hn q
      · omega
    rcases e with e | e | e | e | ⟨x, hx, e⟩ | e
    · exact f1.row k (.inl e)
    · exact f1.row k (.inr (.inl e))
    · exact f1.row k (.inr (.inr (.inl e)))
    · exact f1.row k (.inr (.inr (.inr (.inl e))))
    · obtain ⟨y, hy, rfl⟩ := List.mem_map.1 hx
      by_cases q : y.b = b
      · simp only [q, ↓reduceIte] at e
        rcases e with e | e
        · exact f1.row k (.inr (.inr (.inr (.inr (.inl ⟨y, hy, .inl (e.trans q.symm)⟩)))))
        · have h1 := (row_lt ho e).1
          have h2 := g4.size
          exact .inr (by omega)
      · simp only [q, ↓reduceIte] at e
        exact f1.row k (.inr (.inr (.inr (.inr (.inl ⟨y, hy, e⟩)))))
    · exact f1.row k (.inr (.inr (.inr (.inr (.inr e))))))
  clear h ok hB hfew hE hnm hsum hr hn8 hbd hlo
  go_enter Try.func17, Try.ntmps17
  go_wp2_with (first | (go_at_call 40; refine HM.out.mono ?_; rintro e w2 ⟨rfl, hb2⟩; have HB2 := hidden hb2; clear hb2) | (go_at_call 28; refine (HFF.out _ HB2.out).mono ?_; rintro e w3 ⟨b, rfl, H3⟩; have HC3 := hidden (HCL.out _ _ H3.out)) | (go_at_call 41; refine HC3.out.mono ?_; rintro e w4 ⟨a4, c4, rfl, t1, ⟨vv, t2⟩, H4⟩) | fail)
  go_ret
  exact ⟨rfl, H4⟩
/-- may a file be deleted? -/
def delB (s : Sh) (nm : ByteArray) : Bool := decide (lookB s nm ≠ none) && !takenB s (lookB s nm) 1
theorem delete_bad {B m : Nat} {w : World} {s : Sh} (h : ShAt B w m s) (ok : OkS s) (nm : ByteArray) (hn : nm.size ≤ maxLen) (hd : delB s nm = false) :
    Calls Try.prog 18 #[.pointer (some ⟨m, 0, none⟩), .string nm] w fun e w' => e = .returned (.bool false) ∧ Below w.heap.size w w' := by
  obtain ⟨d0, d1, d2, d3, d5⟩ := h.cells
  have hlk := look_any h nm hn
  have hfile : ∀ b, lookB s nm = some b → IsF w b := fun b e => by
    obtain ⟨f, hf, e2, _⟩ := look_in e
    rw [← e2]
    exact ⟨_, (h.fs f hf).box⟩
  have HT := hidden (taken_any h ok (lookB s nm) hfile 1)
  unfold delB at hd
  clear h ok hn hfile
  generalize s.fm = FM at *
  generalize takenB s (lookB s nm) 1 = TK at *
  generalize lookB s nm = LB at *
  cases LB with
  | none =>
    rw [show ptrF none = .pointer none from rfl] at *
    clear HT
    go_enter Try.func18, Try.ntmps18
    go_wp2
    go_ret
    exact ⟨rfl, Below.refl _ _⟩
  | some b =>
    rw [show ptrF (some b) = .pointer (some ⟨b, 0, none⟩) from rfl] at *
    obtain rfl : TK = true := by cases TK <;> simp_all
    clear hd
    go_enter Try.func18, Try.ntmps18
    go_wp2_with (first | (go_at_call 42; refine HT.out.mono ?_; rintro e w1 ⟨rfl, hb1⟩; have HB1 := hidden hb1; clear hb1) | fail)
    go_ret
    exact ⟨rfl, HB1.out⟩
end Go.Proofs.Ytmohnopegacahaa
