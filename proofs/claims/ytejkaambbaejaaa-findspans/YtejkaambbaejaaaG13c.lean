/- Layer 13: the document's Key. -/
import Derived.Test.YtejkaambbaejaaaG13b
namespace Go.Proofs.Ytejkaambbaejaaa
open Go.RowKit
set_option maxHeartbeats 1000000
set_option maxRecDepth 100000
set_option linter.unusedVariables false

/-- what the document's Key answers -/
def KRetD (s : Sr) (bs : List Int) (w : World) (e : Ending) (w' : World) : Prop := Below w.heap.size w w' ∧ ((keyE s bs.length ≠ 0 ∧ e = .returned (.tuple #[.slice none 0 0, .int .i64 (keyE s bs.length)])) ∨ (keyE s bs.length = 0 ∧ s.ks ≤ 256 ∧ (keyL s bs).length = s.ks ∧ OkB (keyL s bs) ∧ ∃ v, e = .returned (.tuple #[v, .int .i64 0]) ∧ w'.ownsRow w.heap.size 5 1 v s.ks (bytesV (keyL s bs))))
theorem dkey_big (d : Nat) (bs : List Int) (s : Sr) (w : World) (h : 256 < s.ks) :
    Calls Try.prog 11 #[.pointer (some ⟨d, 0, none⟩), .agg #[.int .u32 s.key, .int .u32 s.ks, .int .u32 s.start, .int .u32 s.size, .int .u32 s.cnt, .int .u32 s.off, .int .u32 s.nxt, .int .u32 s.opt]] w (KRetD s bs w) := by
  have l1 : (s.ks : Int) > 256 := by omega
  have HE : Hid (keyE s bs.length = 130) := hidden (by
    unfold keyE mayK
    cases optB s.opt 1
    · have : ¬ (s.ks = 1 ∨ s.ks = 2 ∨ s.ks = 4) := by omega
      simp [this]
    · have : ¬ (s.ks ≤ 256) := by omega
      simp [this])
  have HX := hidden (SBox.new w s)
  have hb1 : Below w.heap.size w (w.alloc (.cells #[.int .u32 s.key, .int .u32 s.ks, .int .u32 s.start, .int .u32 s.size, .int .u32 s.cnt, .int .u32 s.off, .int .u32 s.nxt, .int .u32 s.opt] 25)) := (Below.refl _ _).alloc (Nat.le_refl _) _
  have HB := hidden hb1
  clear hb1 h
  go_enter Try.func11, Try.ntmps11
  go_upto_region 1 with fail
  generalize w.alloc (.cells #[.int .u32 s.key, .int .u32 s.ks, .int .u32 s.start, .int .u32 s.size, .int .u32 s.cnt, .int .u32 s.off, .int .u32 s.nxt, .int .u32 s.opt] 25) = w1 at *
  obtain ⟨c0, c1, c2, c3, c4, c5, c6, c7⟩ := HX.out.cells
  go_wp2
  go_ret2
  unfold KRetD
  rw [HE.out]
  exact ⟨HB.out, .inl ⟨by decide, rfl⟩⟩
theorem dkey_odd (d : Nat) (bs : List Int) (s : Sr) (ok : s.ok) (w : World) (h : s.ks ≤ 256) (ho : optB s.opt 1 = false) (h1 : s.ks ≠ 1) (h2 : s.ks ≠ 2) (h4 : s.ks ≠ 4) :
    Calls Try.prog 11 #[.pointer (some ⟨d, 0, none⟩), .agg #[.int .u32 s.key, .int .u32 s.ks, .int .u32 s.start, .int .u32 s.size, .int .u32 s.cnt, .int .u32 s.off, .int .u32 s.nxt, .int .u32 s.opt]] w (KRetD s bs w) := by
  have l1 : ¬ ((s.ks : Int) > 256) := by omega
  have n1 : ((s.ks : Int) != 1) = true := by simp; omega
  have n2 : ((s.ks : Int) != 2) = true := by simp; omega
  have n4 : ((s.ks : Int) != 4) = true := by simp; omega
  have HE : Hid (keyE s bs.length = 130) := hidden (by
    unfold keyE mayK
    rw [ho]
    have : ¬ (s.ks = 1 ∨ s.ks = 2 ∨ s.ks = 4) := by omega
    simp [this])
  have HQ := hidden (fun w => dhas_1 s.key s.ks s.start s.size s.cnt s.off s.nxt s.opt w ok.opt)
  rw [ho] at HQ
  have HX := hidden (SBox.new w s)
  have hb1 : Below w.heap.size w (w.alloc (.cells #[.int .u32 s.key, .int .u32 s.ks, .int .u32 s.start, .int .u32 s.size, .int .u32 s.cnt, .int .u32 s.off, .int .u32 s.nxt, .int .u32 s.opt] 25)) := (Below.refl _ _).alloc (Nat.le_refl _) _
  have HB := hidden hb1
  clear hb1 h h1 h2 h4 ho
  go_enter Try.func11, Try.ntmps11
  go_upto_region 1 with fail
  generalize w.alloc (.cells #[.int .u32 s.key, .int .u32 s.ks, .int .u32 s.start, .int .u32 s.size, .int .u32 s.cnt, .int .u32 s.off, .int .u32 s.nxt, .int .u32 s.opt] 25) = w1 at *
  obtain ⟨c0, c1, c2, c3, c4, c5, c6, c7⟩ := HX.out.cells
  go_wp2_with (go_at_call 32; refine (HQ.out _).mono ?_; rintro e w2 ⟨rfl, hb2⟩; obtain ⟨-, d1, -, -, -, -, -, -⟩ := (HX.out.later hb2).cells; skip)
  go_ret2
  unfold KRetD
  rw [HE.out]
  exact ⟨HB.out.trans (hb2.mono HB.out.size), .inl ⟨by decide, rfl⟩⟩
theorem dkey_ind (d : Nat) (bs : List Int) (s : Sr) (ok : s.ok) (w : World) (D : DRd w d bs) (h : s.ks ≤ 256) (ho : optB s.opt 1 = true) :
    Calls Try.prog 11 #[.pointer (some ⟨d, 0, none⟩), .agg #[.int .u32 s.key, .int .u32 s.ks, .int .u32 s.start, .int .u32 s.size, .int .u32 s.cnt, .int .u32 s.off, .int .u32 s.nxt, .int .u32 s.opt]] w (KRetD s bs w) := by
  have l1 : ¬ ((s.ks : Int) > 256) := by omega
  have HE : Hid (keyE s bs.length = tkE bs.length s.key s.ks) := hidden (by unfold keyE mayK; rw [ho]; simp [h])
  have HL : Hid (keyL s bs = seg bs s.key s.ks) := hidden (by unfold keyL; rw [ho]; rfl)
  have HQ := hidden (fun w => dhas_1 s.key s.ks s.start s.size s.cnt s.off s.nxt s.opt w ok.opt)
  rw [ho] at HQ
  have HOB := hidden D.okb
  have HX := hidden (SBox.new w s)
  have hb1 : Below w.heap.size w (w.alloc (.cells #[.int .u32 s.key, .int .u32 s.ks, .int .u32 s.start, .int .u32 s.size, .int .u32 s.cnt, .int .u32 s.off, .int .u32 s.nxt, .int .u32 s.opt] 25)) := (Below.refl _ _).alloc (Nat.le_refl _) _
  have HB := hidden hb1
  have HD := hidden D
  have hky := ok.key
  clear hb1 ho D
  go_enter Try.func11, Try.ntmps11
  go_upto_region 1 with fail
  generalize w.alloc (.cells #[.int .u32 s.key, .int .u32 s.ks, .int .u32 s.start, .int .u32 s.size, .int .u32 s.cnt, .int .u32 s.off, .int .u32 s.nxt, .int .u32 s.opt] 25) = w1 at *
  obtain ⟨c0, c1, c2, c3, c4, c5, c6, c7⟩ := HX.out.cells
  go_upto_region 3 with (go_at_call 32; refine (HQ.out _).mono ?_; rintro e w2 ⟨rfl, hb2⟩; obtain ⟨-, d1, -, -, -, -, -, -⟩ := (HX.out.later hb2).cells; skip)
  have HX2 := hidden (HX.out.later hb2)
  have HB2 := hidden (HB.out.trans (hb2.mono HB.out.size))
  clear hb2 d1 c0 c1 c2 c3 c4 c5 c6 c7 HX HB
  obtain ⟨c0, c1, c2, c3, c4, c5, c6, c7⟩ := HX2.out.cells
  go_upto_region 4 with (go_at_call 32; refine (HQ.out _).mono ?_; rintro e w3 ⟨rfl, hb3⟩; skip)
  have HX3 := hidden (HX2.out.later hb3)
  have HB3 := hidden (HB2.out.trans (hb3.mono HB2.out.size))
  clear hb3 c0 c1 c2 c3 c4 c5 c6 c7 HX2 HB2
  obtain ⟨c0, c1, c2, c3, c4, c5, c6, c7⟩ := HX3.out.cells
  have HSP := hidden (span_any d bs s.key s.ks w3 (HD.out.later HB3.out) hky h)
  go_wp2_with fail
  refine HSP.out.mono ?_
  rintro e w4 ⟨hb4, hcase⟩
  have HB4 := hidden (HB3.out.trans (hb4.mono HB3.out.size))
  rcases hcase with ⟨hne, rfl⟩ | ⟨he, v, rfl, hown⟩
  · have hne90 : tkE bs.length s.key s.ks = 90 := by rcases tkE_or bs.length s.key s.ks with q | q; exact absurd q hne; exact q
    have H90 := hidden hne90
    clear hne hne90
    go_wp2
    go_ret2
    unfold KRetD
    rw [HE.out, H90.out]
    exact ⟨HB4.out, .inl ⟨by decide, rfl⟩⟩
  · have HO := hidden (own_base (B := w.heap.size) hown HB3.out.size)
    have H0 := hidden he
    clear hown he
    go_wp2
    go_ret2
    unfold KRetD
    rw [HE.out, H0.out, HL.out]
    exact ⟨HB4.out, .inr ⟨rfl, h, tk_len H0.out, seg_ok HOB.out _ _, v, rfl, HO.out⟩⟩
theorem dkey_1 (d : Nat) (bs : List Int) (s : Sr) (ok : s.ok) (w : World) (ho : optB s.opt 1 = false) (hn : s.ks = 1) :
    Calls Try.prog 11 #[.pointer (some ⟨d, 0, none⟩), .agg #[.int .u32 s.key, .int .u32 s.ks, .int .u32 s.start, .int .u32 s.size, .int .u32 s.cnt, .int .u32 s.off, .int .u32 s.nxt, .int .u32 s.opt]] w (KRetD s bs w) := by
  have hK := ok.key
  have l1 : ¬ ((s.ks : Int) > 256) := by omega
  have n1 : ((s.ks : Int) != 1) = false := by simp [hn]
  have hw : IntKind.i64.wrap (s.ks : Int) = 1 := by rw [hn]; decide
  have hmk : ∀ w, (Instr.makeSlice 22 (.int .i64 1) (.int .i64 1)).run Try.prog w = .ok (.slice (some ⟨w.heap.size, 0, none⟩) 1 1) (w.alloc (.cells (bytesV (zer8 1)).toArray 5)) := fun w => mk8 .i64 1 (by omega) w
  obtain ⟨A0, hA0⟩ : ∃ A : Nat, A = s.key % 256 := ⟨_, rfl⟩
  obtain ⟨K1, hK1⟩ : ∃ A : Nat, A = s.key / 256 := ⟨_, rfl⟩
  have m0 : (s.key : Int).tmod 256 = (A0 : Int) := by rw [Int.tmod_eq_emod_of_nonneg (by omega)]; omega
  have u0a : IntKind.u32.wrap (A0 : Int) = A0 := by rw [IntKind.wrap_u32]; omega
  have v0a : IntKind.u8.wrap (A0 : Int) = A0 := by rw [IntKind.wrap_u8]; omega
  have t0 : (s.key : Int).tdiv 256 = (K1 : Int) := by rw [Int.tdiv_eq_ediv_of_nonneg (by omega)]; omega
  have s0a : IntKind.u32.wrap (K1 : Int) = K1 := by rw [IntKind.wrap_u32]; omega
  have HE : Hid (keyE s bs.length = 0) := hidden (by unfold keyE mayK; rw [ho, hn]; rfl)
  have HL : Hid (keyL s bs = [(A0 : Int)]) := hidden (by
    unfold keyL; rw [ho, hn]
    have q0 : (A0 : Int) = (s.key : Int) % 256 := by omega
    show putL (s.key : Int) 1 = _
    rw [q0]
    rfl)
  have HOKK : Hid (OkB [(A0 : Int)]) := hidden (fun c hc => by simp only [List.mem_cons, List.not_mem_nil, or_false] at hc; omega)
  have HQ := hidden (fun w => dhas_1 s.key s.ks s.start s.size s.cnt s.off s.nxt s.opt w ok.opt)
  rw [ho] at HQ
  have HX := hidden (SBox.new w s)
  have hb1 : Below w.heap.size w (w.alloc (.cells #[.int .u32 s.key, .int .u32 s.ks, .int .u32 s.start, .int .u32 s.size, .int .u32 s.cnt, .int .u32 s.off, .int .u32 s.nxt, .int .u32 s.opt] 25)) := (Below.refl _ _).alloc (Nat.le_refl _) _
  have HB := hidden hb1
  have HN := hidden hn
  clear hb1 ho hn hA0 hK1
  go_enter Try.func11, Try.ntmps11
  go_upto_region 1 with fail
  generalize w.alloc (.cells #[.int .u32 s.key, .int .u32 s.ks, .int .u32 s.start, .int .u32 s.size, .int .u32 s.cnt, .int .u32 s.off, .int .u32 s.nxt, .int .u32 s.opt] 25) = w1 at *
  obtain ⟨c0, c1, c2, c3, c4, c5, c6, c7⟩ := HX.out.cells
  go_upto_region 3 with (go_at_call 32; refine (HQ.out _).mono ?_; rintro e w2 ⟨rfl, hb2⟩; obtain ⟨-, d1, -, -, -, -, -, -⟩ := (HX.out.later hb2).cells; skip)
  have HX2 := hidden (HX.out.later hb2)
  have HB2 := hidden (HB.out.trans (hb2.mono HB.out.size))
  clear hb2 d1 c0 c1 c2 c3 c4 c5 c6 c7 HX HB
  obtain ⟨c0, c1, c2, c3, c4, c5, c6, c7⟩ := HX2.out.cells
  go_upto_region 8 with (go_at_call 32; refine (HQ.out _).mono ?_; rintro e w3 ⟨rfl, hb3⟩; skip)
  have HX3 := hidden (HX2.out.later hb3)
  have HB3 := hidden (HB2.out.trans (hb3.mono HB2.out.size))
  clear hb3 c0 c1 c2 c3 c4 c5 c6 c7 HX2 HB2
  obtain ⟨c0, c1, c2, c3, c4, c5, c6, c7⟩ := HX3.out.cells
  go_upto_region 9 with fail
  have HO4 := hidden (zer_own w3 w.heap.size 1 HB3.out.size (by omega))
  have HB4 := hidden (HB3.out.alloc HB3.out.size (.cells (bytesV (zer8 1)).toArray 5))
  have HX4 := hidden (HX3.out.later ((Below.refl _ _).alloc (Nat.le_refl _) (.cells (bytesV (zer8 1)).toArray 5)))
  have HGG : Hid (w.heap.size ≤ w3.heap.size) := hidden HB3.out.size
  have HGN : Hid (w.heap.size < w3.heap.size) := hidden HX3.out.lt
  clear c0 c1 c2 c3 c4 c5 c6 c7 hmk
  generalize w3.alloc (.cells (bytesV (zer8 1)).toArray 5) = w4 at *
  generalize w3.heap.size = g at *
  obtain ⟨c0, c1, c2, c3, c4, c5, c6, c7⟩ := HX4.out.cells
  have z0 := owned_cells HO4.out 0 (by omega)
  rw [Nat.zero_add, show (zer8 1).getD 0 0 = 0 by decide] at z0
  have f0 : w4.frozen? ⟨g, 0, none⟩ = false := HO4.out.frozenAt 0
  go_upto_region 11 with fail
  go_rounds 2
  all_goals (try go_wp2)
  go_ret2
  unfold KRetD
  rw [HE.out, HL.out, HN.out]
  refine ⟨(HB4.out.setCell (p := ⟨g, 0, none⟩) HGG.out _), .inr ⟨rfl, by omega, rfl, ?_, _, rfl, (own8_put HO4.out 0 (by omega) (A0 : Int))⟩⟩
  exact HOKK.out
theorem dkey_2 (d : Nat) (bs : List Int) (s : Sr) (ok : s.ok) (w : World) (ho : optB s.opt 1 = false) (hn : s.ks = 2) :
    Calls Try.prog 11 #[.pointer (some ⟨d, 0, none⟩), .agg #[.int .u32 s.key, .int .u32 s.ks, .int .u32 s.start, .int .u32 s.size, .int .u32 s.cnt, .int .u32 s.off, .int .u32 s.nxt, .int .u32 s.opt]] w (KRetD s bs w) := by
  have hK := ok.key
  have l1 : ¬ ((s.ks : Int) > 256) := by omega
  have n1 : ((s.ks : Int) != 1) = true := by simp [hn]
  have n2 : ((s.ks : Int) != 2) = false := by simp [hn]
  have hw : IntKind.i64.wrap (s.ks : Int) = 2 := by rw [hn]; decide
  have hmk : ∀ w, (Instr.makeSlice 22 (.int .i64 2) (.int .i64 2)).run Try.prog w = .ok (.slice (some ⟨w.heap.size, 0, none⟩) 2 2) (w.alloc (.cells (bytesV (zer8 2)).toArray 5)) := fun w => mk8 .i64 2 (by omega) w
  obtain ⟨A0, hA0⟩ : ∃ A : Nat, A = s.key % 256 := ⟨_, rfl⟩
  obtain ⟨K1, hK1⟩ : ∃ A : Nat, A = s.key / 256 := ⟨_, rfl⟩
  have m0 : (s.key : Int).tmod 256 = (A0 : Int) := by rw [Int.tmod_eq_emod_of_nonneg (by omega)]; omega
  have u0a : IntKind.u32.wrap (A0 : Int) = A0 := by rw [IntKind.wrap_u32]; omega
  have v0a : IntKind.u8.wrap (A0 : Int) = A0 := by rw [IntKind.wrap_u8]; omega
  have t0 : (s.key : Int).tdiv 256 = (K1 : Int) := by rw [Int.tdiv_eq_ediv_of_nonneg (by omega)]; omega
  have s0a : IntKind.u32.wrap (K1 : Int) = K1 := by rw [IntKind.wrap_u32]; omega
  obtain ⟨A1, hA1⟩ : ∃ A : Nat, A = K1 % 256 := ⟨_, rfl⟩
  obtain ⟨K2, hK2⟩ : ∃ A : Nat, A = K1 / 256 := ⟨_, rfl⟩
  have m1 : (K1 : Int).tmod 256 = (A1 : Int) := by rw [Int.tmod_eq_emod_of_nonneg (by omega)]; omega
  have u1a : IntKind.u32.wrap (A1 : Int) = A1 := by rw [IntKind.wrap_u32]; omega
  have v1a : IntKind.u8.wrap (A1 : Int) = A1 := by rw [IntKind.wrap_u8]; omega
  have t1 : (K1 : Int).tdiv 256 = (K2 : Int) := by rw [Int.tdiv_eq_ediv_of_nonneg (by omega)]; omega
  have s1a : IntKind.u32.wrap (K2 : Int) = K2 := by rw [IntKind.wrap_u32]; omega
  have HE : Hid (keyE s bs.length = 0) := hidden (by unfold keyE mayK; rw [ho, hn]; rfl)
  have HL : Hid (keyL s bs = [(A1 : Int), (A0 : Int)]) := hidden (by
    unfold keyL; rw [ho, hn]
    have q1 : (A1 : Int) = (s.key : Int) / 256 % 256 := by omega
    have q0 : (A0 : Int) = (s.key : Int) % 256 := by omega
    show putL (s.key : Int) 2 = _
    rw [q1, q0]
    rfl)
  have HOKK : Hid (OkB [(A1 : Int), (A0 : Int)]) := hidden (fun c hc => by simp only [List.mem_cons, List.not_mem_nil, or_false] at hc; omega)
  have HQ := hidden (fun w => dhas_1 s.key s.ks s.start s.size s.cnt s.off s.nxt s.opt w ok.opt)
  rw [ho] at HQ
  have HX := hidden (SBox.new w s)
  have hb1 : Below w.heap.size w (w.alloc (.cells #[.int .u32 s.key, .int .u32 s.ks, .int .u32 s.start, .int .u32 s.size, .int .u32 s.cnt, .int .u32 s.off, .int .u32 s.nxt, .int .u32 s.opt] 25)) := (Below.refl _ _).alloc (Nat.le_refl _) _
  have HB := hidden hb1
  have HN := hidden hn
  clear hb1 ho hn hA0 hK1 hA1 hK2
  go_enter Try.func11, Try.ntmps11
  go_upto_region 1 with fail
  generalize w.alloc (.cells #[.int .u32 s.key, .int .u32 s.ks, .int .u32 s.start, .int .u32 s.size, .int .u32 s.cnt, .int .u32 s.off, .int .u32 s.nxt, .int .u32 s.opt] 25) = w1 at *
  obtain ⟨c0, c1, c2, c3, c4, c5, c6, c7⟩ := HX.out.cells
  go_upto_region 3 with (go_at_call 32; refine (HQ.out _).mono ?_; rintro e w2 ⟨rfl, hb2⟩; obtain ⟨-, d1, -, -, -, -, -, -⟩ := (HX.out.later hb2).cells; skip)
  have HX2 := hidden (HX.out.later hb2)
  have HB2 := hidden (HB.out.trans (hb2.mono HB.out.size))
  clear hb2 d1 c0 c1 c2 c3 c4 c5 c6 c7 HX HB
  obtain ⟨c0, c1, c2, c3, c4, c5, c6, c7⟩ := HX2.out.cells
  go_upto_region 8 with (go_at_call 32; refine (HQ.out _).mono ?_; rintro e w3 ⟨rfl, hb3⟩; skip)
  have HX3 := hidden (HX2.out.later hb3)
  have HB3 := hidden (HB2.out.trans (hb3.mono HB2.out.size))
  clear hb3 c0 c1 c2 c3 c4 c5 c6 c7 HX2 HB2
  obtain ⟨c0, c1, c2, c3, c4, c5, c6, c7⟩ := HX3.out.cells
  go_upto_region 9 with fail
  have HO4 := hidden (zer_own w3 w.heap.size 2 HB3.out.size (by omega))
  have HB4 := hidden (HB3.out.alloc HB3.out.size (.cells (bytesV (zer8 2)).toArray 5))
  have HX4 := hidden (HX3.out.later ((Below.refl _ _).alloc (Nat.le_refl _) (.cells (bytesV (zer8 2)).toArray 5)))
  have HGG : Hid (w.heap.size ≤ w3.heap.size) := hidden HB3.out.size
  have HGN : Hid (w.heap.size < w3.heap.size) := hidden HX3.out.lt
  clear c0 c1 c2 c3 c4 c5 c6 c7 hmk
  generalize w3.alloc (.cells (bytesV (zer8 2)).toArray 5) = w4 at *
  generalize w3.heap.size = g at *
  obtain ⟨c0, c1, c2, c3, c4, c5, c6, c7⟩ := HX4.out.cells
  have z0 := owned_cells HO4.out 0 (by omega)
  rw [Nat.zero_add, show (zer8 2).getD 0 0 = 0 by decide] at z0
  have f0 : w4.frozen? ⟨g, 0, none⟩ = false := HO4.out.frozenAt 0
  have z1 := owned_cells HO4.out 1 (by omega)
  rw [Nat.zero_add, show (zer8 2).getD 1 0 = 0 by decide] at z1
  have f1 : w4.frozen? ⟨g, 1, none⟩ = false := HO4.out.frozenAt 1
  go_upto_region 11 with fail
  go_rounds 3
  all_goals (try go_wp2)
  go_ret2
  unfold KRetD
  rw [HE.out, HL.out, HN.out]
  refine ⟨((HB4.out.setCell (p := ⟨g, 1, none⟩) HGG.out _).setCell (p := ⟨g, 0, none⟩) HGG.out _), .inr ⟨rfl, by omega, rfl, ?_, _, rfl, (own8_put (own8_put HO4.out 1 (by omega) (A0 : Int)) 0 (by omega) (A1 : Int))⟩⟩
  exact HOKK.out
theorem dkey_4 (d : Nat) (bs : List Int) (s : Sr) (ok : s.ok) (w : World) (ho : optB s.opt 1 = false) (hn : s.ks = 4) :
    Calls Try.prog 11 #[.pointer (some ⟨d, 0, none⟩), .agg #[.int .u32 s.key, .int .u32 s.ks, .int .u32 s.start, .int .u32 s.size, .int .u32 s.cnt, .int .u32 s.off, .int .u32 s.nxt, .int .u32 s.opt]] w (KRetD s bs w) := by
  have hK := ok.key
  have l1 : ¬ ((s.ks : Int) > 256) := by omega
  have n1 : ((s.ks : Int) != 1) = true := by simp [hn]
  have n2 : ((s.ks : Int) != 2) = true := by simp [hn]
  have n4 : ((s.ks : Int) != 4) = false := by simp [hn]
  have hw : IntKind.i64.wrap (s.ks : Int) = 4 := by rw [hn]; decide
  have hmk : ∀ w, (Instr.makeSlice 22 (.int .i64 4) (.int .i64 4)).run Try.prog w = .ok (.slice (some ⟨w.heap.size, 0, none⟩) 4 4) (w.alloc (.cells (bytesV (zer8 4)).toArray 5)) := fun w => mk8 .i64 4 (by omega) w
  obtain ⟨A0, hA0⟩ : ∃ A : Nat, A = s.key % 256 := ⟨_, rfl⟩
  obtain ⟨K1, hK1⟩ : ∃ A : Nat, A = s.key / 256 := ⟨_, rfl⟩
  have m0 : (s.key : Int).tmod 256 = (A0 : Int) := by rw [Int.tmod_eq_emod_of_nonneg (by omega)]; omega
  have u0a : IntKind.u32.wrap (A0 : Int) = A0 := by rw [IntKind.wrap_u32]; omega
  have v0a : IntKind.u8.wrap (A0 : Int) = A0 := by rw [IntKind.wrap_u8]; omega
  have t0 : (s.key : Int).tdiv 256 = (K1 : Int) := by rw [Int.tdiv_eq_ediv_of_nonneg (by omega)]; omega
  have s0a : IntKind.u32.wrap (K1 : Int) = K1 := by rw [IntKind.wrap_u32]; omega
  obtain ⟨A1, hA1⟩ : ∃ A : Nat, A = K1 % 256 := ⟨_, rfl⟩
  obtain ⟨K2, hK2⟩ : ∃ A : Nat, A = K1 / 256 := ⟨_, rfl⟩
  have m1 : (K1 : Int).tmod 256 = (A1 : Int) := by rw [Int.tmod_eq_emod_of_nonneg (by omega)]; omega
  have u1a : IntKind.u32.wrap (A1 : Int) = A1 := by rw [IntKind.wrap_u32]; omega
  have v1a : IntKind.u8.wrap (A1 : Int) = A1 := by rw [IntKind.wrap_u8]; omega
  have t1 : (K1 : Int).tdiv 256 = (K2 : Int) := by rw [Int.tdiv_eq_ediv_of_nonneg (by omega)]; omega
  have s1a : IntKind.u32.wrap (K2 : Int) = K2 := by rw [IntKind.wrap_u32]; omega
  obtain ⟨A2, hA2⟩ : ∃ A : Nat, A = K2 % 256 := ⟨_, rfl⟩
  obtain ⟨K3, hK3⟩ : ∃ A : Nat, A = K2 / 256 := ⟨_, rfl⟩
  have m2 : (K2 : Int).tmod 256 = (A2 : Int) := by rw [Int.tmod_eq_emod_of_nonneg (by omega)]; omega
  have u2a : IntKind.u32.wrap (A2 : Int) = A2 := by rw [IntKind.wrap_u32]; omega
  have v2a : IntKind.u8.wrap (A2 : Int) = A2 := by rw [IntKind.wrap_u8]; omega
  have t2 : (K2 : Int).tdiv 256 = (K3 : Int) := by rw [Int.tdiv_eq_ediv_of_nonneg (by omega)]; omega
  have s2a : IntKind.u32.wrap (K3 : Int) = K3 := by rw [IntKind.wrap_u32]; omega
  obtain ⟨A3, hA3⟩ : ∃ A : Nat, A = K3 % 256 := ⟨_, rfl⟩
  obtain ⟨K4, hK4⟩ : ∃ A : Nat, A = K3 / 256 := ⟨_, rfl⟩
  have m3 : (K3 : Int).tmod 256 = (A3 : Int) := by rw [Int.tmod_eq_emod_of_nonneg (by omega)]; omega
  have u3a : IntKind.u32.wrap (A3 : Int) = A3 := by rw [IntKind.wrap_u32]; omega
  have v3a : IntKind.u8.wrap (A3 : Int) = A3 := by rw [IntKind.wrap_u8]; omega
  have t3 : (K3 : Int).tdiv 256 = (K4 : Int) := by rw [Int.tdiv_eq_ediv_of_nonneg (by omega)]; omega
  have s3a : IntKind.u32.wrap (K4 : Int) = K4 := by rw [IntKind.wrap_u32]; omega
  have HE : Hid (keyE s bs.length = 0) := hidden (by unfold keyE mayK; rw [ho, hn]; rfl)
  have HL : Hid (keyL s bs = [(A3 : Int), (A2 : Int), (A1 : Int), (A0 : Int)]) := hidden (by
    unfold keyL; rw [ho, hn]
    have q3 : (A3 : Int) = (s.key : Int) / 16777216 % 256 := by omega
    have q2 : (A2 : Int) = (s.key : Int) / 65536 % 256 := by omega
    have q1 : (A1 : Int) = (s.key : Int) / 256 % 256 := by omega
    have q0 : (A0 : Int) = (s.key : Int) % 256 := by omega
    show putL (s.key : Int) 4 = _
    rw [q3, q2, q1, q0]
    rfl)
  have HOKK : Hid (OkB [(A3 : Int), (A2 : Int), (A1 : Int), (A0 : Int)]) := hidden (fun c hc => by simp only [List.mem_cons, List.not_mem_nil, or_false] at hc; omega)
  have HQ := hidden (fun w => dhas_1 s.key s.ks s.start s.size s.cnt s.off s.nxt s.opt w ok.opt)
  rw [ho] at HQ
  have HX := hidden (SBox.new w s)
  have hb1 : Below w.heap.size w (w.alloc (.cells #[.int .u32 s.key, .int .u32 s.ks, .int .u32 s.start, .int .u32 s.size, .int .u32 s.cnt, .int .u32 s.off, .int .u32 s.nxt, .int .u32 s.opt] 25)) := (Below.refl _ _).alloc (Nat.le_refl _) _
  have HB := hidden hb1
  have HN := hidden hn
  clear hb1 ho hn hA0 hK1 hA1 hK2 hA2 hK3 hA3 hK4
  go_enter Try.func11, Try.ntmps11
  go_upto_region 1 with fail
  generalize w.alloc (.cells #[.int .u32 s.key, .int .u32 s.ks, .int .u32 s.start, .int .u32 s.size, .int .u32 s.cnt, .int .u32 s.off, .int .u32 s.nxt, .int .u32 s.opt] 25) = w1 at *
  obtain ⟨c0, c1, c2, c3, c4, c5, c6, c7⟩ := HX.out.cells
  go_upto_region 3 with (go_at_call 32; refine (HQ.out _).mono ?_; rintro e w2 ⟨rfl, hb2⟩; obtain ⟨-, d1, -, -, -, -, -, -⟩ := (HX.out.later hb2).cells; skip)
  have HX2 := hidden (HX.out.later hb2)
  have HB2 := hidden (HB.out.trans (hb2.mono HB.out.size))
  clear hb2 d1 c0 c1 c2 c3 c4 c5 c6 c7 HX HB
  obtain ⟨c0, c1, c2, c3, c4, c5, c6, c7⟩ := HX2.out.cells
  go_upto_region 8 with (go_at_call 32; refine (HQ.out _).mono ?_; rintro e w3 ⟨rfl, hb3⟩; skip)
  have HX3 := hidden (HX2.out.later hb3)
  have HB3 := hidden (HB2.out.trans (hb3.mono HB2.out.size))
  clear hb3 c0 c1 c2 c3 c4 c5 c6 c7 HX2 HB2
  obtain ⟨c0, c1, c2, c3, c4, c5, c6, c7⟩ := HX3.out.cells
  go_upto_region 9 with fail
  have HO4 := hidden (zer_own w3 w.heap.size 4 HB3.out.size (by omega))
  have HB4 := hidden (HB3.out.alloc HB3.out.size (.cells (bytesV (zer8 4)).toArray 5))
  have HX4 := hidden (HX3.out.later ((Below.refl _ _).alloc (Nat.le_refl _) (.cells (bytesV (zer8 4)).toArray 5)))
  have HGG : Hid (w.heap.size ≤ w3.heap.size) := hidden HB3.out.size
  have HGN : Hid (w.heap.size < w3.heap.size) := hidden HX3.out.lt
  clear c0 c1 c2 c3 c4 c5 c6 c7 hmk
  generalize w3.alloc (.cells (bytesV (zer8 4)).toArray 5) = w4 at *
  generalize w3.heap.size = g at *
  obtain ⟨c0, c1, c2, c3, c4, c5, c6, c7⟩ := HX4.out.cells
  have z0 := owned_cells HO4.out 0 (by omega)
  rw [Nat.zero_add, show (zer8 4).getD 0 0 = 0 by decide] at z0
  have f0 : w4.frozen? ⟨g, 0, none⟩ = false := HO4.out.frozenAt 0
  have z1 := owned_cells HO4.out 1 (by omega)
  rw [Nat.zero_add, show (zer8 4).getD 1 0 = 0 by decide] at z1
  have f1 : w4.frozen? ⟨g, 1, none⟩ = false := HO4.out.frozenAt 1
  have z2 := owned_cells HO4.out 2 (by omega)
  rw [Nat.zero_add, show (zer8 4).getD 2 0 = 0 by decide] at z2
  have f2 : w4.frozen? ⟨g, 2, none⟩ = false := HO4.out.frozenAt 2
  have z3 := owned_cells HO4.out 3 (by omega)
  rw [Nat.zero_add, show (zer8 4).getD 3 0 = 0 by decide] at z3
  have f3 : w4.frozen? ⟨g, 3, none⟩ = false := HO4.out.frozenAt 3
  go_upto_region 11 with fail
  go_rounds 5
  all_goals (try go_wp2)
  go_ret2
  unfold KRetD
  rw [HE.out, HL.out, HN.out]
  refine ⟨((((HB4.out.setCell (p := ⟨g, 3, none⟩) HGG.out _).setCell (p := ⟨g, 2, none⟩) HGG.out _).setCell (p := ⟨g, 1, none⟩) HGG.out _).setCell (p := ⟨g, 0, none⟩) HGG.out _), .inr ⟨rfl, by omega, rfl, ?_, _, rfl, (own8_put (own8_put (own8_put (own8_put HO4.out 3 (by omega) (A0 : Int)) 2 (by omega) (A1 : Int)) 1 (by omega) (A2 : Int)) 0 (by omega) (A3 : Int))⟩⟩
  exact HOKK.out
theorem dkey_any (d : Nat) (bs : List Int) (s : Sr) (ok : s.ok) (w : World) (D : DRd w d bs) :
    Calls Try.prog 11 #[.pointer (some ⟨d, 0, none⟩), .agg #[.int .u32 s.key, .int .u32 s.ks, .int .u32 s.start, .int .u32 s.size, .int .u32 s.cnt, .int .u32 s.off, .int .u32 s.nxt, .int .u32 s.opt]] w (KRetD s bs w) := by
  by_cases h : 256 < s.ks
  · exact dkey_big d bs s w h
  · cases ho : optB s.opt 1
    · by_cases h1 : s.ks = 1
      · exact dkey_1 d bs s ok w ho h1
      · by_cases h2 : s.ks = 2
        · exact dkey_2 d bs s ok w ho h2
        · by_cases h4 : s.ks = 4
          · exact dkey_4 d bs s ok w ho h4
          · exact dkey_odd d bs s ok w (by omega) ho h1 h2 h4
    · exact dkey_ind d bs s ok w D (by omega) ho
end Go.Proofs.Ytejkaambbaejaaa
