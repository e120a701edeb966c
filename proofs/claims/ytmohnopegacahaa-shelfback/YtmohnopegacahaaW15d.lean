/- Layer 15, the program: Open. -/
import Derived.Test.YtmohnopegacahaaW15c
namespace Go.Proofs.Ytmohnopegacahaa
open Go.RowKit
set_option maxHeartbeats 1000000
set_option maxRecDepth 100000
set_option linter.unusedVariables false

/-- a file without bytes -/
def blkS (s : Sh) (b : Nat) : Sh := { s with F := updF s.F b (.slice none 0 0) [] }
theorem ShAt.blankF {B m : Nat} {w : World} {s : Sh} (h : ShAt B w m s) (ok : OkS s) (f0 : Fl) (hf0 : f0 ∈ s.F) : ShAt B (w.setCell ⟨f0.b, 0, none⟩ (.slice none 0 0)) m (blkS s f0.b) ∧ OkS (blkS s f0.b) ∧ Fm w (w.setCell ⟨f0.b, 0, none⟩ (.slice none 0 0)) (fun k => k = f0.b) (fun k => k = f0.b) := by
  have hfa := h.fs f0 hf0
  have fz : Fm w w (fun k => k = f0.b) (fun k => k = f0.b) := Fm.same (Below.refl _ _)
  have f := fz.set f0.b 0 (.slice none 0 0) rfl
  have hty := ty_box hfa.box
  have no : ∀ k t, tyAt w k = some t → t ≠ 75 → ¬ k = f0.b := fun k t e1 e2 q => by rw [q, hty] at e1; simp at e1; exact e2 e1.symm
  refine ⟨h.part f (fun k e => ?_) rfl rfl rfl rfl rfl rfl (h.mp.upd _ _ _) ?_ ?_ ?_, ⟨ok.sk, ok.so, ok.few, ?_, ok.gk, fun d hd => ⟨fun q => ?_, (ok.on d hd).2⟩, ok.last0, ok.low, ok.most0⟩, f⟩
  · subst e; rw [hty]; exact ⟨by decide, by decide, by simp⟩
  · intro d hd
    exact ⟨(h.ss d hd).1, (h.ss d hd).2.fm f (no _ _ (ty_box (h.ss d hd).2) (by decide))⟩
  · intro x hx
    obtain ⟨y, hy, rfl⟩ := List.mem_map.1 hx
    by_cases e : y.b = f0.b
    · simp only [e, ↓reduceIte]
      exact ⟨hfa.base, by rw [bkset hfa.box]; rfl, World.ownsRow_nil _ _ _ _, by simp, by simp⟩
    · simp only [e, ↓reduceIte]
      exact (h.fs y hy).fm f e (fun k e2 => no _ _ (ty_row (h.fs y hy).row e2) (by decide))
  · intro d hd
    exact (h.gs d hd).fm f (no _ _ (ty_box (h.gs d hd).box) (by decide)) (fun k e => no _ _ (ty_row (h.gs d hd).row e) (by decide))
  · show (updF s.F f0.b (.slice none 0 0) []).Pairwise _
    unfold updF
    rw [List.pairwise_map]
    refine ok.fk.imp (fun {a c} q => ?_)
    refine ⟨by split <;> split <;> exact q.1, fun k e1 e2 => ?_⟩
    split at e1
    · cases e1
    · split at e2
      · cases e2
      · exact q.2 k e1 e2
  · obtain ⟨y, hy, e⟩ := (ok.on d hd).1 q
    exact ⟨_, List.mem_map.2 ⟨y, hy, rfl⟩, by split <;> exact e⟩
theorem add_fin {B m : Nat} {w w3 w4 : World} {s s2 : Sh} {d : Sm} (h0 : ShAt B w m s) (h : ShAt B w3 m s2) (ok : OkS s2) (f : Fm w w3 (TS m s) (TS m s2)) (hB : B ≤ w.heap.size) (hn : s2.S.length < 64) (hl : s2.last < 1000000) (hf : d.f = true) (hg : ∃ x ∈ s2.F, x.b = d.g) (hb : Below w3.heap.size w3 w4) (hs : SBox w4 d) (hk : w3.heap.size ≤ d.k) :
    Calls Try.prog 30 #[.pointer (some ⟨m, 0, none⟩), .pointer (some ⟨d.k, 0, none⟩)] w4 fun e w' => e = .returned (.int .i64 (s2.last + 1)) ∧ Hid (∃ v', ShAt B w' m (addS s2 d v') ∧ OkS (addS s2 d v') ∧ Fm w w' (TS m s) (TS m (addS s2 d v'))) := by
  have hkn : ∀ e ∈ s2.S, e.k ≠ d.k := fun e he q => by
    have q1 := (h.low e.k (.inr (.inr (.inr (.inl ⟨e, he, rfl⟩))))).2
    omega
  have hB3 := Nat.le_trans hB f.size
  refine (add_any (d := d) (h.later hb) ok (Nat.le_trans hB3 hb.size) hs (Nat.le_trans hB3 hk) hkn hl).mono ?_
  rintro e w' ⟨rfl, H⟩
  obtain ⟨v', g1, g2⟩ := H.out
  refine ⟨rfl, hidden ⟨v', g1, addS_ok ok hn hkn hl ⟨fun _ => hg, fun q => by rw [hf] at q; cases q⟩, ?_⟩⟩
  have f1 : Fm w w4 (TS m s) (fun k => TS m s2 k ∨ k = d.k) := ⟨hb.os.trans f.os, hb.tape.trans f.tape, hb.output.trans f.output, Nat.le_trans f.size hb.size, fun k hk hn => by rw [hb.block k (by have := f.size; omega)]; exact f.block k hk hn, fun k hk2 => by
    rcases hk2 with e | e
    · exact f.row k e
    · exact .inr (by have := f.size; omega)⟩
  refine f1.trans (g2.to (fun k e => e) (fun k e => ?_))
  rcases e with e | e | e | ⟨x, hx, e⟩ | e | e
  · exact .inr (.inl e)
  · exact .inl (.inl (.inr (.inl e)))
  · exact .inr (.inr (.inr e))
  · rcases List.mem_append.1 hx with q | q
    · exact .inl (.inl (.inr (.inr (.inr (.inl ⟨x, q, e⟩)))))
    · rw [List.mem_singleton] at q
      subst q
      exact .inr (.inr (.inl e))
  · exact .inl (.inl (.inr (.inr (.inr (.inr (.inl e))))))
  · exact .inl (.inl (.inr (.inr (.inr (.inr (.inr e))))))
/-- the shelf behind fileFor: as it was, or with a file more -/
def Mk (s : Sh) (nm : List UInt8) (b : Nat) (s2 : Sh) : Prop := (s2 = s ∧ ∃ f, findF s.F nm = some f ∧ f.b = b) ∨ (findF s.F nm = none ∧ ∃ mb, s2 = mkF s nm b mb)
theorem Mk.file {s s2 : Sh} {nm : List UInt8} {b : Nat} (h : Mk s nm b s2) : ∃ f ∈ s2.F, f.b = b ∧ findF s2.F nm = some f := by
  rcases h with ⟨rfl, f, h1, h2⟩ | ⟨h1, mb, rfl⟩
  · exact ⟨f, List.mem_of_find?_eq_some h1, h2, h1⟩
  · refine ⟨⟨nm, b, .slice none 0 0, []⟩, by simp [mkF], rfl, ?_⟩
    unfold findF at h1 ⊢
    show List.find? _ (s.F ++ [_]) = _
    rw [List.find?_append, h1]
    simp
theorem Mk.same {s s2 : Sh} {nm : List UInt8} {b : Nat} (h : Mk s nm b s2) : s2.S = s.S ∧ s2.last = s.last ∧ s2.most = s.most ∧ s2.G = s.G := by
  rcases h with ⟨rfl, _⟩ | ⟨_, mb, rfl⟩
  · exact ⟨rfl, rfl, rfl, rfl⟩
  · exact ⟨rfl, rfl, rfl, rfl⟩
theorem fileFor_any {B m : Nat} {w : World} {s : Sh} (h : ShAt B w m s) (ok : OkS s) (hB : B ≤ w.heap.size) (nm : ByteArray) (hn : nm.size ≤ 32) (hfew : s.F.length ≤ 1000) :
    Calls Try.prog 28 #[.pointer (some ⟨m, 0, none⟩), .string nm] w fun e w' => ∃ b, e = .returned (.pointer (some ⟨b, 0, none⟩)) ∧ Hid (∃ s2, Mk s nm.data.toList b s2 ∧ ShAt B w' m s2 ∧ OkS s2 ∧ Fm w w' (TS m s) (TS m s2)) := by
  cases hlk : lookB s nm with
  | some b =>
    obtain ⟨f, hf, e1, e2⟩ := look_in hlk
    refine (fileFor_some h nm (by unfold maxLen; omega) b hlk).mono ?_
    rintro e w' ⟨rfl, rfl⟩
    exact ⟨b, rfl, hidden ⟨s, .inl ⟨rfl, f, e2, e1⟩, h, ok, Fm.same (Below.refl _ _)⟩⟩
  | none =>
    refine (fileFor_none h ok hB nm hn hlk hfew).mono ?_
    rintro e w' ⟨fb, mb, rfl, H⟩
    have hno2 : findF s.F nm.data.toList = none := by
      unfold lookB at hlk
      cases hq : findF s.F nm.data.toList with
      | none => rfl
      | some f => rw [hq] at hlk; cases hlk
    exact ⟨fb, rfl, hidden ⟨_, .inr ⟨hno2, mb, rfl⟩, H.out.1, mkF_ok h ok H.out.2.2.2, H.out.ts⟩⟩
/-- the shelf behind Open -/
def opS (s2 : Sh) (b : Nat) (md : Int) : Sh := if md = 1 then blkS s2 b else s2
def opP (s2 : Sh) (b : Nat) (md : Int) (wide : Bool) : Nat := if md = 5 then gsz true wide (grF s2.F b) else 0
def OpnR (B : Nat) (w : World) (m : Nat) (s : Sh) (nm : List UInt8) (md : Int) (wide : Bool) (w' : World) : Prop := ∃ b s2 k v', Mk s nm b s2 ∧ ShAt B w' m (addS (opS s2 b md) ⟨k, 0, true, b, md, wide, opP s2 b md wide, 0, 0⟩ v') ∧ OkS (addS (opS s2 b md) ⟨k, 0, true, b, md, wide, opP s2 b md wide, 0, 0⟩ v') ∧ Fm w w' (TS m s) (TS m (addS (opS s2 b md) ⟨k, 0, true, b, md, wide, opP s2 b md wide, 0, 0⟩ v'))
theorem open_bad {B m : Nat} {w : World} {s : Sh} (h : ShAt B w m s) (ok : OkS s) (nm : ByteArray) (hn : nm.size ≤ maxLen) (md : Int) (wide : Bool) (E : Int) (hE : mayOpenE s nm md = E) (h0 : E ≠ 0) :
    Calls Try.prog 12 #[.pointer (some ⟨m, 0, none⟩), .string nm, .int .i64 md, .bool wide] w fun e w' => e = .returned (.tuple #[.int .i64 0, .int .i64 E]) ∧ Below w.heap.size w w' := by
  have HM := hidden (mayOpen_any h ok nm hn md)
  rw [hE] at HM
  have n0 : (E != 0) = true := bne_iff_ne.2 h0
  clear h ok hn hE h0
  go_enter Try.func12, Try.ntmps12
  go_wp2_with (first | (go_at_call 27; refine HM.out.mono ?_; rintro e w2 ⟨rfl, hb2⟩; have HB2 := hidden hb2; clear hb2) | fail)
  go_ret2
  exact ⟨rfl, HB2.out⟩
set_option maxHeartbeats 4000000 in
theorem open_good {B m : Nat} {w : World} {s : Sh} (h : ShAt B w m s) (ok : OkS s) (hB : B ≤ w.heap.size) (nm : ByteArray) (md : Int) (wide : Bool) (hE : mayOpenE s nm md = 0) (hfew : s.F.length ≤ 1000) (hl : s.last < 1000000) :
    Calls Try.prog 12 #[.pointer (some ⟨m, 0, none⟩), .string nm, .int .i64 md, .bool wide] w fun e w' => e = .returned (.tuple #[.int .i64 (s.last + 1), .int .i64 0]) ∧ Hid (OpnR B w m s nm.data.toList md wide w') := by
  have hnm : nm.size ≤ 32 := by
    unfold mayOpenE at hE
    split at hE
    · cases hE
    · rename_i q
      simp only [nmB, decide_eq_false_iff_not] at q
      omega
  have hS : s.S.length < 64 := by
    unfold mayOpenE at hE
    split at hE
    · cases hE
    · split at hE
      · cases hE
      · split at hE
        · cases hE
        · omega
  have HM := hidden (mayOpen_any h ok nm (by unfold maxLen; omega) md)
  rw [hE] at HM
  have HFF : Hid (∀ w2, Below w.heap.size w w2 → Calls Try.prog 28 #[.pointer (some ⟨m, 0, none⟩), .string nm] w2 fun e w' => ∃ b, e = .returned (.pointer (some ⟨b, 0, none⟩)) ∧ Hid (∃ s2, Mk s nm.data.toList b s2 ∧ ShAt B w' m s2 ∧ OkS s2 ∧ Fm w w' (TS m s) (TS m s2))) := hidden (fun w2 hb => (fileFor_any (h.later hb) ok (Nat.le_trans hB hb.size) nm hnm hfew).mono (by
    rintro e w' ⟨b, rfl, H⟩
    obtain ⟨s2, h1, h2, h3, h4⟩ := H.out
    exact ⟨b, rfl, hidden ⟨s2, h1, h2, h3, (Fm.same hb).trans h4⟩⟩))
  by_cases h1 : md = 1
  · subst h1
    have HBL : Hid (∀ w3 b, (∃ s2, Mk s nm.data.toList b s2 ∧ ShAt B w3 m s2 ∧ OkS s2 ∧ Fm w w3 (TS m s) (TS m s2)) → w3.frozen? ⟨b, 0, none⟩ = false ∧ (∃ vv, w3.cell? ⟨b, 0, none⟩ = some vv) ∧ Hid (Calls Try.prog 30 #[.pointer (some ⟨m, 0, none⟩), .pointer (some ⟨w3.heap.size, 0, none⟩)] ((w3.setCell ⟨b, 0, none⟩ (.slice none 0 0)).alloc (.cells #[.int .i64 0, .iface 72 (.pointer (some ⟨b, 0, none⟩)), .int .i64 1, .bool wide, .int .i64 0, .int .u32 0, .int .u32 0] 80)) fun e w' => e = .returned (.int .i64 (s.last + 1)) ∧ Hid (OpnR B w m s nm.data.toList 1 wide w'))) := hidden (fun w3 b hh => by
      obtain ⟨s2, g1, g2, g3, g4⟩ := hh
      obtain ⟨f, hf, e1, e2⟩ := g1.file
      obtain ⟨j1, j2, j3, j4⟩ := g1.same
      obtain ⟨k1, k2, k3⟩ := g2.blankF g3 f hf
      have hfa := g2.fs f hf
      rw [e1] at k1 k2 k3
      have hsz : (w3.setCell ⟨b, 0, none⟩ (.slice none 0 0)).heap.size = w3.heap.size := by simp
      have f4 : Fm w (w3.setCell ⟨b, 0, none⟩ (.slice none 0 0)) (TS m s) (TS m (blkS s2 b)) := g4.trans (k3.to (fun k e => .inr (.inr (.inr (.inr (.inl ⟨f, hf, .inl (by rw [e1]; exact e)⟩))))) (fun k e => .inl (by
        rcases e with e | e | e | e | ⟨x, hx, e⟩ | e
        · exact .inl e
        · exact .inr (.inl e)
        · exact .inr (.inr (.inl e))
        · exact .inr (.inr (.inr (.inl e)))
        · obtain ⟨y, hy, rfl⟩ := List.mem_map.1 hx
          refine .inr (.inr (.inr (.inr (.inl ⟨y, hy, ?_⟩))))
          by_cases q : y.b = b
          · simp only [q, ↓reduceIte] at e
            rcases e with e | e
            · exact .inl (e.trans q.symm)
            · cases e
          · simp only [q, ↓reduceIte] at e
            exact e
        · exact .inr (.inr (.inr (.inr (.inr e)))))))
      refine ⟨by rw [← e1]; exact hfa.cell.2, ⟨_, by rw [← e1]; exact hfa.cell.1⟩, hidden ?_⟩
      have hnew := heap_alloc_new (w3.setCell ⟨b, 0, none⟩ (.slice none 0 0)) (.cells #[.int .i64 0, .iface 72 (.pointer (some ⟨b, 0, none⟩)), .int .i64 1, .bool wide, .int .i64 0, .int .u32 0, .int .u32 0] 80)
      rw [hsz] at hnew
      refine (add_fin (s2 := blkS s2 b) (d := ⟨w3.heap.size, 0, true, b, 1, wide, 0, 0, 0⟩) h k1 k2 f4 hB (by show s2.S.length < 64; rw [j1]; exact hS) (by show s2.last < _; rw [j2]; exact hl) rfl ⟨_, List.mem_map.2 ⟨f, hf, rfl⟩, by split <;> exact e1⟩ ((Below.refl _ _).alloc (Nat.le_refl _) _) hnew (by rw [hsz]; exact Nat.le_refl _)).mono ?_
      rintro e w' ⟨rfl, H⟩
      obtain ⟨v', q1, q2, q3⟩ := H.out
      refine ⟨by show _ = Ending.returned (.int .i64 (s.last + 1)); rw [show (blkS s2 b).last = s.last from j2], hidden ⟨b, s2, w3.heap.size, v', g1, ?_, ?_, ?_⟩⟩
      · exact q1
      · exact q2
      · exact q3)
    clear h ok hB hfew hl hE hnm hS
    go_enter Try.func12, Try.ntmps12
    go_wp2_with (first | (go_at_call 27; refine HM.out.mono ?_; rintro e w2 ⟨rfl, hb2⟩; have HB2 := hidden hb2; clear hb2) | (go_at_call 28; refine (HFF.out _ HB2.out).mono ?_; rintro e w3 ⟨b, rfl, H3⟩; obtain ⟨t1, ⟨vv, t2⟩, HAD⟩ := HBL.out _ _ H3.out) | (go_at_call 30; refine HAD.out.mono ?_; rintro e w5 ⟨rfl, H5⟩) | fail)
    go_ret2
    exact ⟨rfl, H5⟩
  by_cases h5 : md = 5
  · subst h5
    have HBL : Hid (∀ w3 b, (∃ s2, Mk s nm.data.toList b s2 ∧ ShAt B w3 m s2 ∧ OkS s2 ∧ Fm w w3 (TS m s) (TS m s2)) → ∃ N : Nat, Hid (Calls Try.prog 29 #[.pointer (some ⟨w3.heap.size, 0, none⟩)] (w3.alloc (.cells #[.int .i64 0, .iface 72 (.pointer (some ⟨b, 0, none⟩)), .int .i64 5, .bool wide, .int .i64 0, .int .u32 0, .int .u32 0] 80)) fun e w' => e = .returned (.int .i64 N) ∧ Hid (Dr (w3.alloc (.cells #[.int .i64 0, .iface 72 (.pointer (some ⟨b, 0, none⟩)), .int .i64 5, .bool wide, .int .i64 0, .int .u32 0, .int .u32 0] 80)) w')) ∧ Hid (∀ w4, Dr (w3.alloc (.cells #[.int .i64 0, .iface 72 (.pointer (some ⟨b, 0, none⟩)), .int .i64 5, .bool wide, .int .i64 0, .int .u32 0, .int .u32 0] 80)) w4 → w4.frozen? ⟨w3.heap.size, 4, none⟩ = false ∧ w4.cell? ⟨w3.heap.size, 4, none⟩ = some (.int .i64 0) ∧ Hid (Calls Try.prog 30 #[.pointer (some ⟨m, 0, none⟩), .pointer (some ⟨w3.heap.size, 0, none⟩)] (w4.setCell ⟨w3.heap.size, 4, none⟩ (.int .i64 N)) fun e w' => e = .returned (.int .i64 (s.last + 1)) ∧ Hid (OpnR B w m s nm.data.toList 5 wide w')))) := hidden (fun w3 b hh => by
      obtain ⟨s2, g1, g2, g3, g4⟩ := hh
      obtain ⟨f, hf, e1, e2⟩ := g1.file
      obtain ⟨j1, j2, j3, j4⟩ := g1.same
      have hfa := g2.fs f hf
      have hgr := grF_at g3.fk hf
      rw [e1] at hgr
      have ha : Below w3.heap.size w3 (w3.alloc (.cells #[.int .i64 0, .iface 72 (.pointer (some ⟨b, 0, none⟩)), .int .i64 5, .bool wide, .int .i64 0, .int .u32 0, .int .u32 0] 80)) := (Below.refl _ _).alloc (Nat.le_refl _) _
      have hsb : SBox (w3.alloc (.cells #[.int .i64 0, .iface 72 (.pointer (some ⟨b, 0, none⟩)), .int .i64 5, .bool wide, .int .i64 0, .int .u32 0, .int .u32 0] 80)) ⟨w3.heap.size, 0, true, b, 5, wide, 0, 0, 0⟩ := heap_alloc_new _ _
      generalize (w3.alloc (.cells #[.int .i64 0, .iface 72 (.pointer (some ⟨b, 0, none⟩)), .int .i64 5, .bool wide, .int .i64 0, .int .u32 0, .int .u32 0] 80)) = wa at *
      have hfa2 : FAt B wa b f.v f.zs := by rw [← e1]; exact hfa.later ha
      refine ⟨gsz true wide f.zs, hidden ((osize_any ⟨w3.heap.size, 0, true, b, 5, wide, 0, 0, 0⟩ hsb (show GAt B wa true b f.v f.zs from hfa2)).mono (fun e w' hh => ⟨hh.1, hidden hh.2⟩)), hidden (fun w4 hd => ?_)⟩
      have hs4 := hsb.later hd.below
      obtain ⟨c0, c1, c2, c3, c4, c5, c6, z0⟩ := hs4.cells
      refine ⟨z0 4, c4, hidden ?_⟩
      have hst := hs4.set4 (gsz true wide f.zs)
      have hb4 : Below w3.heap.size w3 (w4.setCell ⟨w3.heap.size, 4, none⟩ (.int .i64 ((gsz true wide f.zs : Nat) : Int))) := below_set (ha.trans (hd.below.mono (by have := ha.size; omega))) _ _ _ (Nat.le_refl _)
      refine (add_fin (s2 := s2) (d := ⟨w3.heap.size, 0, true, b, 5, wide, gsz true wide f.zs, 0, 0⟩) h g2 g3 g4 hB (by rw [j1]; exact hS) (by rw [j2]; exact hl) rfl ⟨f, hf, e1⟩ hb4 hst (Nat.le_refl _)).mono ?_
      rintro e w' ⟨rfl, H⟩
      obtain ⟨v', q1, q2, q3⟩ := H.out
      rw [← hgr] at q1 q2 q3
      refine ⟨by rw [j2], hidden ⟨b, s2, w3.heap.size, v', g1, ?_, ?_, ?_⟩⟩
      · exact q1
      · exact q2
      · exact q3)
    clear h ok hB hfew hl hE hnm hS h1
    go_enter Try.func12, Try.ntmps12
    go_upto_region 9 with (first | (go_at_call 27; refine HM.out.mono ?_; rintro e w2 ⟨rfl, hb2⟩; have HB2 := hidden hb2; clear hb2) | (go_at_call 28; refine (HFF.out _ HB2.out).mono ?_; rintro e w3 ⟨b, rfl, H3⟩; obtain ⟨N, HSZ, HAD⟩ := HBL.out _ _ H3.out) | fail)
    clear HBL HFF HM
    generalize (w3.alloc (.cells #[.int .i64 0, .iface 72 (.pointer (some ⟨b, 0, none⟩)), .int .i64 5, .bool wide, .int .i64 0, .int .u32 0, .int .u32 0] 80)) = wa at *
    generalize w3.heap.size = KK at *
    go_wp2_with (first | (go_at_call 29; refine HSZ.out.mono ?_; rintro e w4 ⟨rfl, H4⟩; obtain ⟨t1, t2, HA4⟩ := HAD.out _ H4.out) | (go_at_call 30; refine HA4.out.mono ?_; rintro e w5 ⟨rfl, H5⟩) | fail)
    go_ret2
    exact ⟨rfl, H5⟩
  · have HBL : Hid (∀ w3 b, (∃ s2, Mk s nm.data.toList b s2 ∧ ShAt B w3 m s2 ∧ OkS s2 ∧ Fm w w3 (TS m s) (TS m s2)) → Calls Try.prog 30 #[.pointer (some ⟨m, 0, none⟩), .pointer (some ⟨w3.heap.size, 0, none⟩)] (w3.alloc (.cells #[.int .i64 0, .iface 72 (.pointer (some ⟨b, 0, none⟩)), .int .i64 md, .bool wide, .int .i64 0, .int .u32 0, .int .u32 0] 80)) fun e w' => e = .returned (.int .i64 (s.last + 1)) ∧ Hid (OpnR B w m s nm.data.toList md wide w')) := hidden (fun w3 b hh => by
      obtain ⟨s2, g1, g2, g3, g4⟩ := hh
      obtain ⟨f, hf, e1, e2⟩ := g1.file
      obtain ⟨j1, j2, j3, j4⟩ := g1.same
      refine (add_fin (s2 := s2) (d := ⟨w3.heap.size, 0, true, b, md, wide, 0, 0, 0⟩) h g2 g3 g4 hB (by rw [j1]; exact hS) (by rw [j2]; exact hl) rfl ⟨f, hf, e1⟩ ((Below.refl _ _).alloc (Nat.le_refl _) _) (heap_alloc_new _ _) (Nat.le_refl _)).mono ?_
      rintro e w' ⟨rfl, H⟩
      obtain ⟨v', q1, q2, q3⟩ := H.out
      have e3 : opS s2 b md = s2 := by unfold opS; rw [if_neg h1]
      have e4 : opP s2 b md wide = 0 := by unfold opP; rw [if_neg h5]
      refine ⟨by rw [j2], hidden ⟨b, s2, w3.heap.size, v', g1, ?_, ?_, ?_⟩⟩
      · rw [e3, e4]; exact q1
      · rw [e3, e4]; exact q2
      · rw [e3, e4]; exact q3)
    have n1 : (md == 1) = false := by simp [h1]
    have n5 : (md == 5) = false := by simp [h5]
    clear h ok hB hfew hl hE hnm hS h1 h5
    go_enter Try.func12, Try.ntmps12
    go_wp2_with (first | (go_at_call 27; refine HM.out.mono ?_; rintro e w2 ⟨rfl, hb2⟩; have HB2 := hidden hb2; clear hb2) | (go_at_call 28; refine (HFF.out _ HB2.out).mono ?_; rintro e w3 ⟨b, rfl, H3⟩; have HAD := hidden (HBL.out _ _ H3.out)) | (go_at_call 30; refine HAD.out.mono ?_; rintro e w5 ⟨rfl, H5⟩) | fail)
    go_ret2
    exact ⟨rfl, H5⟩
end Go.Proofs.Ytmohnopegacahaa
