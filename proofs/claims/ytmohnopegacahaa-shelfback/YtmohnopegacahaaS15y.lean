/- Layer 15, the program: Open of a file that is not there yet. -/
import Derived.Test.YtmohnopegacahaaS15w
namespace Go.Proofs.Ytmohnopegacahaa
open Go.RowKit
set_option maxHeartbeats 1000000
set_option maxRecDepth 100000
set_option linter.unusedVariables false

def newF (s : Sh) (nm : List UInt8) (fb mb : Nat) : Sh := { s with fm := some mb, F := [⟨nm, fb, .slice none 0 0, []⟩] }
def opnS (s : Sh) (nm : List UInt8) (fb mb k : Nat) (v' : Value) (md : Int) (wide : Bool) : Sh := addS (newF s nm fb mb) ⟨k, 0, true, fb, md, wide, 0, 0, 0⟩ v'
def OpR (B : Nat) (w : World) (m : Nat) (s : Sh) (nm : List UInt8) (md : Int) (wide : Bool) (w' : World) : Prop := ∃ fb mb k v', ShAt B w' m (opnS s nm fb mb k v' md wide) ∧ OkS (opnS s nm fb mb k v' md wide) ∧ Fm w w' (TS m s) (TS m (opnS s nm fb mb k v' md wide))
theorem newF_ok {s : Sh} (ok : OkS s) (hS : s.S = []) (nm : List UInt8) (fb mb : Nat) : OkS (newF s nm fb mb) :=
  ⟨ok.sk, ok.so, ok.few, List.pairwise_singleton _ _, ok.gk, (by intro d hd; have hd : d ∈ s.S := hd; rw [hS] at hd; cases hd), ok.last0, ok.low, ok.most0⟩
/-- a file that has no bytes is given none -/
theorem ShAt.blank {B m fb mb : Nat} {w : World} {s : Sh} {nm : List UInt8} (h : ShAt B w m (newF s nm fb mb)) : ShAt B (w.setCell ⟨fb, 0, none⟩ (.slice none 0 0)) m (newF s nm fb mb) ∧ Fm w (w.setCell ⟨fb, 0, none⟩ (.slice none 0 0)) (fun k => k = fb) (fun k => k = fb) := by
  have hfa : FAt B w fb (.slice none 0 0) [] := h.fs ⟨nm, fb, .slice none 0 0, []⟩ (by simp [newF])
  have f0 : Fm w w (fun k => k = fb) (fun k => k = fb) := Fm.same (Below.refl _ _)
  have f := f0.set fb 0 (.slice none 0 0) rfl
  have hty := ty_box hfa.box
  have no : ∀ k t, tyAt w k = some t → t ≠ 75 → ¬ k = fb := fun k t e1 e2 q => by rw [q, hty] at e1; simp at e1; exact e2 e1.symm
  refine ⟨h.part f (fun k e => ?_) rfl rfl rfl rfl rfl rfl h.mp ?_ ?_ ?_, f⟩
  · subst e; rw [hty]; exact ⟨by decide, by decide, by simp⟩
  · intro d hd
    exact ⟨(h.ss d hd).1, (h.ss d hd).2.fm f (no _ _ (ty_box (h.ss d hd).2) (by decide))⟩
  · intro d hd
    have hd : d ∈ [(⟨nm, fb, .slice none 0 0, []⟩ : Fl)] := hd
    rw [List.mem_singleton] at hd
    subst hd
    exact ⟨hfa.base, by rw [bkset hfa.box]; rfl, World.ownsRow_nil _ _ _ _, by simp, by simp⟩
  · intro d hd
    exact (h.gs d hd).fm f (no _ _ (ty_box (h.gs d hd).box) (by decide)) (fun k e => no _ _ (ty_row (h.gs d hd).row e) (by decide))
theorem opn_fin {B m fb mb : Nat} {w w3 : World} {s : Sh} {nm : List UInt8} (h0 : ShAt B w m s) (ok : OkS s) (hB : B ≤ w.heap.size) (hS : s.S = []) (hl : s.last < 1000000) (h : ShAt B w3 m (newF s nm fb mb)) (f : Fm w w3 (fun k => k = m) (fun k => k = m ∨ k = mb ∨ k = fb)) (md : Int) (wide : Bool) :
    Calls Try.prog 30 #[.pointer (some ⟨m, 0, none⟩), .pointer (some ⟨w3.heap.size, 0, none⟩)] (w3.alloc (.cells #[.int .i64 0, .iface 72 (.pointer (some ⟨fb, 0, none⟩)), .int .i64 md, .bool wide, .int .i64 0, .int .u32 0, .int .u32 0] 80)) fun e w' => e = .returned (.int .i64 (s.last + 1)) ∧ Hid (OpR B w m s nm md wide w') := by
  have ha : Below w3.heap.size w3 (w3.alloc (.cells #[.int .i64 0, .iface 72 (.pointer (some ⟨fb, 0, none⟩)), .int .i64 md, .bool wide, .int .i64 0, .int .u32 0, .int .u32 0] 80)) := (Below.refl _ _).alloc (Nat.le_refl _) _
  have hsb : SBox (w3.alloc (.cells #[.int .i64 0, .iface 72 (.pointer (some ⟨fb, 0, none⟩)), .int .i64 md, .bool wide, .int .i64 0, .int .u32 0, .int .u32 0] 80)) ⟨w3.heap.size, 0, true, fb, md, wide, 0, 0, 0⟩ := heap_alloc_new _ _
  generalize w3.alloc (.cells #[.int .i64 0, .iface 72 (.pointer (some ⟨fb, 0, none⟩)), .int .i64 md, .bool wide, .int .i64 0, .int .u32 0, .int .u32 0] 80) = w4 at *
  have ok5 := newF_ok ok hS nm fb mb
  have hkn : ∀ e ∈ (newF s nm fb mb).S, e.k ≠ w3.heap.size := fun e he => by have he : e ∈ s.S := he; rw [hS] at he; cases he
  have hB3 := Nat.le_trans hB f.size
  refine (add_any (d := ⟨w3.heap.size, 0, true, fb, md, wide, 0, 0, 0⟩) (h.later ha) ok5 (Nat.le_trans hB3 ha.size) hsb hB3 hkn hl).mono ?_
  rintro e w' ⟨rfl, H⟩
  obtain ⟨v', g1, g2⟩ := H.out
  refine ⟨rfl, hidden ⟨fb, mb, w3.heap.size, v', g1, addS_ok ok5 (by show s.S.length < 64; rw [hS]; decide) hkn hl ⟨fun _ => ⟨⟨nm, fb, .slice none 0 0, []⟩, by simp [newF], rfl⟩, fun q => (by cases q)⟩, ?_⟩⟩
  have hfs := h.low
  have f1 : Fm w w4 (TS m s) (fun k => TS m (newF s nm fb mb) k ∨ k = w3.heap.size) := by
    refine ⟨ha.os.trans f.os, ha.tape.trans f.tape, ha.output.trans f.output, Nat.le_trans f.size ha.size, fun k hk hn => ?_, fun k hk => ?_⟩
    · rw [ha.block k (by have := f.size; omega)]
      exact f.block k hk (fun e => hn (.inl e))
    · rcases hk with (e | e | e | e | ⟨x, hx, e⟩ | e) | e
      · exact .inl (.inl e)
      · have e : mb = k := Option.some.inj e
        rcases f.row k (.inr (.inl e.symm)) with q | q
        · exact .inl (.inl q)
        · exact .inr q
      · exact .inl (.inr (.inr (.inl e)))
      · exact .inl (.inr (.inr (.inr (.inl e))))
      · have hx : x ∈ [(⟨nm, fb, .slice none 0 0, []⟩ : Fl)] := hx
        rw [List.mem_singleton] at hx
        subst hx
        rcases e with e | e
        · rcases f.row k (.inr (.inr e)) with q | q
          · exact .inl (.inl q)
          · exact .inr q
        · cases e
      · exact .inl (.inr (.inr (.inr (.inr (.inr e)))))
      · exact .inr (by have := f.size; omega)
  refine f1.trans (g2.to (fun k e => e) (fun k e => ?_))
  rcases e with e | e | e | ⟨d, hd, e⟩ | e | e
  · exact .inr (.inl e)
  · exact .inl (.inl (.inr (.inl e)))
  · exact .inr (.inr (.inr e))
  · rcases List.mem_append.1 hd with q | q
    · exact .inl (.inl (.inr (.inr (.inr (.inl ⟨d, q, e⟩)))))
    · rw [List.mem_singleton] at q
      subst q
      exact .inr (.inr (.inl e))
  · exact .inl (.inl (.inr (.inr (.inr (.inr (.inl e))))))
  · exact .inl (.inl (.inr (.inr (.inr (.inr (.inr e))))))
theorem open_new {B m : Nat} {w : World} {s : Sh} (h : ShAt B w m s) (ok : OkS s) (hB : B ≤ w.heap.size) (hs : s.sv = .slice none 0 0) (hS : s.S = []) (hf : s.fm = none) (hl : s.last < 1000000) (nm : ByteArray) (hn : 1 ≤ nm.size ∧ nm.size ≤ 32) (wide : Bool) :
    Calls Try.prog 12 #[.pointer (some ⟨m, 0, none⟩), .string nm, .int .i64 1, .bool wide] w fun e w' => e = .returned (.tuple #[.int .i64 (s.last + 1), .int .i64 0]) ∧ Hid (OpR B w m s nm.data.toList 1 wide w') := by
  have HM := hidden (mayOpen_new h hs hf nm hn 1 (.inl rfl))
  have HFF : Hid (∀ w2, Below w.heap.size w w2 → Calls Try.prog 28 #[.pointer (some ⟨m, 0, none⟩), .string nm] w2 fun e w' => ∃ fb mb, e = .returned (.pointer (some ⟨fb, 0, none⟩)) ∧ Hid (ShAt B w' m (newF s nm.data.toList fb mb) ∧ Fm w w' (fun k => k = m) (fun k => k = m ∨ k = mb ∨ k = fb))) := hidden (fun w2 hb => (fileFor_new (h.later hb) (Nat.le_trans hB hb.size) hf nm hn.2).mono (by
    rintro e w' ⟨fb, mb, rfl, H⟩
    obtain ⟨h1, h2, h3, h4⟩ := H.out
    refine ⟨fb, mb, rfl, hidden ⟨h1, ⟨h2.os.trans hb.os, h2.tape.trans hb.tape, h2.output.trans hb.output, Nat.le_trans hb.size h2.size, fun k hk hn => (h2.block k (by have := hb.size; omega) hn).trans (hb.block k hk), fun k hk => ?_⟩⟩⟩
    rcases h2.row k hk with q | q
    · exact .inl q
    · exact .inr (by have := hb.size; omega)))
  have HBL : Hid (∀ w3 fb mb, (ShAt B w3 m (newF s nm.data.toList fb mb) ∧ Fm w w3 (fun k => k = m) (fun k => k = m ∨ k = mb ∨ k = fb)) → w3.frozen? ⟨fb, 0, none⟩ = false ∧ w3.cell? ⟨fb, 0, none⟩ = some (.slice none 0 0) ∧ Hid (Calls Try.prog 30 #[.pointer (some ⟨m, 0, none⟩), .pointer (some ⟨w3.heap.size, 0, none⟩)] ((w3.setCell ⟨fb, 0, none⟩ (.slice none 0 0)).alloc (.cells #[.int .i64 0, .iface 72 (.pointer (some ⟨fb, 0, none⟩)), .int .i64 1, .bool wide, .int .i64 0, .int .u32 0, .int .u32 0] 80)) fun e w' => e = .returned (.int .i64 (s.last + 1)) ∧ Hid (OpR B w m s nm.data.toList 1 wide w'))) := hidden (fun w3 fb mb hh => by
    obtain ⟨h1, f1⟩ := hh
    have hfa : FAt B w3 fb (.slice none 0 0) [] := h1.fs ⟨nm.data.toList, fb, .slice none 0 0, []⟩ (by simp [newF])
    obtain ⟨g1, g2⟩ := h1.blank
    have f2 : Fm w (w3.setCell ⟨fb, 0, none⟩ (.slice none 0 0)) (fun k => k = m) (fun k => k = m ∨ k = mb ∨ k = fb) := by
      refine ⟨g2.os.trans f1.os, g2.tape.trans f1.tape, g2.output.trans f1.output, Nat.le_trans f1.size g2.size, fun k hk hn => ?_, f1.row⟩
      rw [g2.block k (by have := f1.size; omega) (fun e => ?_)]
      · exact f1.block k hk hn
      · rcases f1.row k (.inr (.inr e)) with q | q
        · exact hn q
        · omega
    have := opn_fin h ok hB hS hl g1 f2 1 wide
    rw [show (w3.setCell ⟨fb, 0, none⟩ (.slice none 0 0)).heap.size = w3.heap.size by simp] at this
    exact ⟨hfa.cell.2, hfa.cell.1, hidden this⟩)
  clear h ok hB hs hS hf hl hn
  go_enter Try.func12, Try.ntmps12
  go_wp2_with (first | (go_at_call 27; refine HM.out.mono ?_; rintro e w2 ⟨rfl, hb2⟩; have HB2 := hidden hb2; clear hb2) | (go_at_call 28; refine (HFF.out _ HB2.out).mono ?_; rintro e w3 ⟨fb, mb, rfl, H3⟩; obtain ⟨t1, t2, HAD⟩ := HBL.out _ _ _ H3.out) | (go_at_call 30; refine HAD.out.mono ?_; rintro e w5 ⟨rfl, H5⟩) | fail)
  go_ret2
  exact ⟨rfl, H5⟩
end Go.Proofs.Ytmohnopegacahaa
