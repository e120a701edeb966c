/- Contract of a stack's method Enter: a frame on top. -/
import Derived.Test.YthhkennomnmjkaaS10m
namespace Go.Proofs.Ythhkennomnmjkaa
open Go.RowKit
set_option maxHeartbeats 1000000
set_option maxRecDepth 100000
set_option linter.unusedVariables false

set_option maxHeartbeats 2000000 in
theorem kEnter_good (B m : Nat) (v : Value) (s : Ks) (fx : Addr) (n fc : Nat) (zs : List Int) (w : World) (h : KAt B w m v s) (hB : B ≤ w.heap.size) (ok : OkK s) (hr : Reads w (some fx) n fc zs) (hz : OkB zs) (hn : n ≤ 100000) (hnt : ¬ TK m v fx.block) (h0 : (locR zs).2.2 = 0) (hs : s.on = true → stubE s = 0) (hro : s.bs.length + (posF zs + szF zs) ≤ s.size) :
    Calls Try.prog 15 #[.pointer (some ⟨m, 0, none⟩), .slice (some fx) n fc] w fun e w' => e = .returned (.int .i64 0) ∧ LeftK B w w' m v ⟨s.size, s.bs ++ newF zs, s.bs.length, true⟩ := by
  obtain ⟨e1, e2, e3⟩ := loc_zero h0
  have HL := hidden (kloc_any (some fx) n fc zs w hr hz (by omega))
  rw [e1] at HL
  simp only at HL
  obtain ⟨a, c, rfl, kc⟩ := h.kc'
  have hps := posF_mod zs
  have hzl := hr.1
  have h2 := fmtL_two e2
  have hmo := ok.most
  have HRO : Hid (∀ w1, Below w.heap.size w w1 → Calls Try.prog 48 #[.pointer (some ⟨m, 0, none⟩), .int .i64 ((posF zs : Int) + (szF zs : Int))] w1 fun e w' => e = .returned (.int .i64 0) ∧ Below w.heap.size w w') := fun w1 hb => by
    have := kroom_any m a c s (posF zs + szF zs) w1 (kc.later hb) ok
    rw [show roomE s (posF zs + szF zs) = 0 by unfold roomE; rw [if_neg (by omega)], Int.natCast_add] at this
    exact this.mono (fun e w' hh => ⟨hh.1, hb.trans (hh.2.below.mono hb.size)⟩)
  have HST : Hid (∀ w1, Below w.heap.size w w1 → (w1.cell? ⟨m, 1, none⟩ = some (.slice a s.bs.length c) ∧ w1.cell? ⟨m, 2, none⟩ = some (.int .i64 s.fr) ∧ w1.cell? ⟨m, 3, none⟩ = some (.bool s.on) ∧ (∀ j, w1.frozen? ⟨m, j, none⟩ = false)) ∧ Calls Try.prog 47 #[.pointer (some ⟨m, 0, none⟩)] w1 fun e w' => e = .returned (.int .i64 (stubE s)) ∧ Below w.heap.size w w') := fun w1 hb => by
    obtain ⟨_, k1, k2, k3, kf⟩ := (h.later hb).cells
    exact ⟨⟨k1, k2, k3, kf⟩, (kstub_any m a c s w1 (kc.later hb) ok).mono (fun e w' hh => ⟨hh.1, hb.trans (hh.2.below.mono hb.size)⟩)⟩
  -- the two numbers
  have HP : Hid (∀ w1, Below w.heap.size w w1 → Calls Try.prog 49 #[.pointer (some ⟨m, 0, none⟩), .slice (some ⟨w1.heap.size, 0, none⟩) 2 2] ((((w1.setCell ⟨m, 2, none⟩ (.int .i64 s.bs.length)).setCell ⟨m, 3, none⟩ (.bool true))).alloc (.cells #[.int .u32 ((posF zs : Int) + (szF zs : Int)), .int .u32 (posF zs : Int)] 23)) fun e w' => e = .returned (.tuple #[]) ∧ ∃ a' c', (w'.cell? ⟨m, 1, none⟩ = some (.slice a' (s.bs.length + 8) c') ∧ w'.cell? ⟨m, 2, none⟩ = some (.int .i64 s.bs.length) ∧ (∀ j, w'.frozen? ⟨m, j, none⟩ = false)) ∧ Hid (KAt B w' m (.slice a' (s.bs.length + 8) c') ⟨s.size, s.bs ++ putsL [posF zs + szF zs, posF zs], s.bs.length, true⟩ ∧ Fm w w' (TK m (.slice a s.bs.length c)) (TK m (.slice a' (s.bs.length + 8) c')))) := fun w1 hb => by
    have h1 := h.later hb
    obtain ⟨g3, g4⟩ := h1.set2 s.bs.length
    obtain ⟨g5, g6⟩ := g3.set3 true
    have f0 := ((Fm.same (T := TK m (.slice a s.bs.length c)) hb).trans g4).trans g6
    have hk := kpush_new B m _ _ [posF zs + szF zs, posF zs] _ _ (Below.refl _ _) g5 (Nat.le_trans hB f0.size) (by simp; omega) (by simp; omega) (by simp)
    simp only [List.map_cons, List.map_nil, List.length_cons, List.length_nil, Nat.zero_add, Int.natCast_add, World.size_setCell] at hk
    refine hk.mono ?_
    rintro e w' ⟨rfl, v', g7, g8⟩
    obtain ⟨a', c', rfl⟩ := own_slice8 g7.row
    have el : (s.bs ++ putsL [posF zs + szF zs, posF zs]).length = s.bs.length + 8 := by rw [List.length_append, putsL_len]; rfl
    simp only [el] at g7 g8
    obtain ⟨_, k1, k2, k3, kf⟩ := g7.cells
    exact ⟨rfl, a', c', ⟨k1, k2, kf⟩, g7, f0.trans g8⟩
  -- the format
  have HRD : Hid (∀ (w' : World) (T' : Nat → Prop), Fm w w' (TK m (.slice a s.bs.length c)) T' → ∀ j u, (bytesV zs)[j]? = some u → w'.cell? (fx.add j) = some u) := fun w' T' f => (hr.fm f hnt).news
  have HG : Hid (∀ (w4 w5 : World) (a4 : Option Addr) (c4 : Nat) (a5 : Option Addr) (c5 : Nat), KAt B w4 m (.slice a4 (s.bs.length + 8) c4) ⟨s.size, s.bs ++ putsL [posF zs + szF zs, posF zs], s.bs.length, true⟩ ∧ Fm w w4 (TK m (.slice a s.bs.length c)) (TK m (.slice a4 (s.bs.length + 8) c4)) → w5.ownsRow B 5 1 (.slice a5 (s.bs.length + 8 + n) c5) (s.bs.length + 8 + n) (bytesV (s.bs ++ putsL [posF zs + szF zs, posF zs] ++ zs)) → Fm w4 w5 (fun k => (Value.slice a4 (s.bs.length + 8) c4).ownBlock = some k) (fun k => (Value.slice a5 (s.bs.length + 8 + n) c5).ownBlock = some k) → (w5.cell? ⟨m, 1, none⟩ = some (.slice a4 (s.bs.length + 8) c4) ∧ (∀ j, w5.frozen? ⟨m, j, none⟩ = false) ∧ w5.cell? ⟨m, 2, none⟩ = some (.int .i64 s.bs.length)) ∧ (∃ g5, a5 = some ⟨g5, 0, none⟩) ∧ Hid (KAt B (w5.setCell ⟨m, 1, none⟩ (.slice a5 (s.bs.length + 8 + n) c5)) m (.slice a5 (s.bs.length + 8 + n) c5) ⟨s.size, s.bs ++ putsL [posF zs + szF zs, posF zs] ++ zs, s.bs.length, true⟩ ∧ Fm w (w5.setCell ⟨m, 1, none⟩ (.slice a5 (s.bs.length + 8 + n) c5)) (TK m (.slice a s.bs.length c)) (TK m (.slice a5 (s.bs.length + 8 + n) c5)))) := fun w4 w5 a4 c4 a5 c5 hk ho f => by
    have el : (s.bs ++ putsL [posF zs + szF zs, posF zs] ++ zs).length = s.bs.length + 8 + n := by rw [List.length_append, List.length_append, putsL_len, hzl]; rfl
    have hm := f.block m hk.1.lt hk.1.ne
    obtain ⟨_, k1, k2, k3, kf⟩ := hk.1.cells
    obtain ⟨g1, g2⟩ := KAt.grown (zs := s.bs ++ putsL [posF zs + szF zs, posF zs] ++ zs) hk.1 f (by rw [el]; exact ho)
    refine ⟨⟨(World.cell?_of_block hm).trans k1, fun j => (World.frozen?_of_block hm).trans (kf j), (World.cell?_of_block hm).trans k2⟩, ?_, g1, hk.2.trans g2⟩
    rcases ho.2 with ⟨_, h3⟩ | ⟨g, cap, cur, h3, _⟩
    · omega
    · simp only [Value.slice.injEq] at h3
      exact ⟨g, h3.1⟩
  -- the bytes 0
  have HZ : Hid (∀ (w6 w7 : World) (g5 : Nat) (c5 g7 c7 : Nat), KAt B w6 m (.slice (some ⟨g5, 0, none⟩) (s.bs.length + 8 + n) c5) ⟨s.size, s.bs ++ putsL [posF zs + szF zs, posF zs] ++ zs, s.bs.length, true⟩ ∧ Fm w w6 (TK m (.slice a s.bs.length c)) (TK m (.slice (some ⟨g5, 0, none⟩) (s.bs.length + 8 + n) c5)) → w7.ownsRow B 5 1 (.slice (some ⟨g7, 0, none⟩) (s.bs.length + 8 + n + (posF zs + szF zs - 8 - n)) c7) (s.bs.length + 8 + n + (posF zs + szF zs - 8 - n)) (bytesV (s.bs ++ putsL [posF zs + szF zs, posF zs] ++ zs ++ zer8 (posF zs + szF zs - 8 - n))) → Fm w6 w7 (fun k => (Value.slice (some ⟨g5, 0, none⟩) (s.bs.length + 8 + n) c5).ownBlock = some k) (fun k => (Value.slice (some ⟨g7, 0, none⟩) (s.bs.length + 8 + n + (posF zs + szF zs - 8 - n)) c7).ownBlock = some k) → (w7.cell? ⟨m, 1, none⟩ = some (.slice (some ⟨g5, 0, none⟩) (s.bs.length + 8 + n) c5) ∧ w7.frozen? ⟨m, 1, none⟩ = false) ∧ Hid (LeftK B w (w7.setCell ⟨m, 1, none⟩ (.slice (some ⟨g7, 0, none⟩) (s.bs.length + 8 + n + (posF zs + szF zs - 8 - n)) c7)) m (.slice a s.bs.length c) ⟨s.size, s.bs ++ newF zs, s.bs.length, true⟩)) := fun w6 w7 g5 c5 g7 c7 hk ho f => by
    have en : s.bs ++ putsL [posF zs + szF zs, posF zs] ++ zs ++ zer8 (posF zs + szF zs - 8 - n) = s.bs ++ newF zs := by
      unfold newF putsL
      rw [hzl]
      simp
    have el : (s.bs ++ newF zs).length = s.bs.length + 8 + n + (posF zs + szF zs - 8 - n) := by
      rw [← en, List.length_append, List.length_append, List.length_append, putsL_len, hzl, zer8_len]; rfl
    have hm := f.block m hk.1.lt hk.1.ne
    obtain ⟨_, k1, k2, k3, kf⟩ := hk.1.cells
    rw [en] at ho
    obtain ⟨g1, g2⟩ := KAt.grown (zs := s.bs ++ newF zs) hk.1 f (by rw [el]; exact ho)
    exact ⟨⟨(World.cell?_of_block hm).trans k1, (World.frozen?_of_block hm).trans (kf 1)⟩, _, g1, hk.2.trans g2⟩
  have hBs : Hid (∀ (w' : World) (T' : Nat → Prop), Fm w w' (TK m (.slice a s.bs.length c)) T' → B ≤ w'.heap.size) := fun w' T' f => Nat.le_trans hB f.size
  rw [e3, hzl] at h2
  have HZL := hidden hzl
  have hP8 : 8 + n ≤ posF zs := by omega
  clear h ok hr hz kc e1 e2 e3 h0 hnt hzl hps
  generalize posF zs = P at *
  generalize szF zs = S at *
  generalize hbs : s.bs.length = L at *
  have hw1 : IntKind.i64.wrap ((P : Int) + (S : Int)) = (P : Int) + (S : Int) := by rw [IntKind.wrap_i64]; omega
  have hw2 : IntKind.u32.wrap ((P : Int) + (S : Int)) = (P : Int) + (S : Int) := by rw [IntKind.wrap_u32]; omega
  have hw3 : IntKind.u32.wrap (P : Int) = (P : Int) := by rw [IntKind.wrap_u32]; omega
  have hw4 : IntKind.i64.wrap ((L : Int) + (P : Int)) = (L : Int) + (P : Int) := by rw [IntKind.wrap_i64]; omega
  have hw5 : IntKind.i64.wrap ((L : Int) + (P : Int) + (S : Int)) = (L : Int) + (P : Int) + (S : Int) := by rw [IntKind.wrap_i64]; omega
  have hw6 : IntKind.i64.wrap ((L : Int) + (P : Int) + (S : Int) - ((L : Int) + 8 + (n : Int))) = ((P + S - 8 - n : Nat) : Int) := by rw [IntKind.wrap_i64]; omega
  have hLb : L + 8 + n + (P + S - 8 - n) ≤ 65536 := by omega
  have hbs' := hidden hbs
  clear hbs
  generalize P + S - 8 - n = Z at *
  have OWN : Hid (∀ (w4 : World) (a4 : Option Addr) (c4 : Nat), KAt B w4 m (.slice a4 (L + 8) c4) ⟨s.size, s.bs ++ putsL [P + S, P], L, true⟩ → w4.ownsRow B 5 1 (.slice a4 (L + 8) c4) (L + 8) (bytesV (s.bs ++ putsL [P + S, P]))) := fun w4 a4 c4 hk => by
    have el : (s.bs ++ putsL [P + S, P]).length = L + 8 := by rw [List.length_append, putsL_len, hbs'.out]; rfl
    have := hk.row
    simp only [el] at this
    exact this
  cases hon : s.on with
  | false =>
    rw [hon] at HST
    clear hs
    go_enter Try.func15, Try.ntmps15
    go_wp2_with (first | (go_at_call 12; refine HL.out.mono ?_; rintro e w1 ⟨rfl, hb⟩; obtain ⟨⟨k1, k2, k3, kf⟩, hs1⟩ := HST.out _ hb; have HS1 := hidden hs1; clear hs1; have f2 := kf 2; have f3 := kf 3; clear kf) | (go_at_call 48; refine (HRO.out _ hb).mono ?_; rintro e w3 ⟨rfl, hb3⟩; obtain ⟨⟨j1, j2, j3, jf⟩, -⟩ := HST.out _ hb3; have g2 := jf 2; have g3 := jf 3; clear jf) | (go_at_call 49; refine (HP.out _ hb3).mono ?_; rintro e w4 ⟨rfl, a4, c4, ⟨l1, l2, lf⟩, hk4⟩; have lf1 := lf 1; clear lf; obtain ⟨HK4, HB4⟩ : Hid (w4.ownsRow B 5 1 (.slice a4 (L + 8) c4) (L + 8) (bytesV (s.bs ++ putsL [P + S, P]))) ∧ Hid (B ≤ w4.heap.size) := ⟨OWN.out _ _ _ hk4.out.1, hBs.out _ _ hk4.out.2⟩) | (at_builtin; refine wpList_app8 rfl _ _ rfl B _ (L + 8) (s.bs ++ putsL [P + S, P]) rfl HK4.out fx n fc zs rfl HZL.out (HRD.out _ _ hk4.out.2) (by omega) HB4.out (by omega) ?_; intro a5 c5 w5 ho5 f5; obtain ⟨⟨p1, pf, p2⟩, ⟨g5, rfl⟩, hk5⟩ := HG.out _ _ _ _ _ _ hk4.out ho5 f5.out; have pf1 := pf 1; clear pf ho5 f5))
    have hk6 := hk5
    generalize w5.setCell ⟨m, 1, none⟩ (.slice (some ⟨g5, 0, none⟩) (L + 8 + n) c5) = w6 at *
    have HB6 := hidden (hBs.out _ _ hk6.out.2)
    obtain ⟨r1, r2, rf, HO6⟩ : w6.cell? ⟨m, 1, none⟩ = some (.slice (some ⟨g5, 0, none⟩) (L + 8 + n) c5) ∧ w6.cell? ⟨m, 2, none⟩ = some (.int .i64 L) ∧ w6.frozen? ⟨m, 1, none⟩ = false ∧ Hid (∀ wx, Below w6.heap.size w6 wx → wx.ownsRow B 5 1 (.slice (some ⟨g5, 0, none⟩) (L + 8 + n) c5) (L + 8 + n) (bytesV (s.bs ++ putsL [P + S, P] ++ zs))) := by
      obtain ⟨_, q1, q2, _, qf⟩ := hk6.out.1.cells
      have el : (s.bs ++ putsL [P + S, P] ++ zs).length = L + 8 + n := by rw [List.length_append, List.length_append, putsL_len, hbs'.out, HZL.out]; rfl
      have ho := hk6.out.1.row
      simp only [el] at ho
      exact ⟨q1, q2, qf 1, fun wx hb => own_later ho hb⟩
    have HZ1 : Hid (∀ (w7 : World) (g7 c7 : Nat), w7.ownsRow B 5 1 (.slice (some ⟨g7, 0, none⟩) (L + 8 + n + Z) c7) (L + 8 + n + Z) (bytesV (s.bs ++ putsL [P + S, P] ++ zs ++ zer8 Z)) → Fm w6.drew w7 (fun k => (Value.slice (some ⟨g5, 0, none⟩) (L + 8 + n) c5).ownBlock = some k) (fun k => (Value.slice (some ⟨g7, 0, none⟩) (L + 8 + n + Z) c7).ownBlock = some k) → (w7.cell? ⟨m, 1, none⟩ = some (.slice (some ⟨g5, 0, none⟩) (L + 8 + n) c5) ∧ w7.frozen? ⟨m, 1, none⟩ = false) ∧ Hid (LeftK B w (w7.setCell ⟨m, 1, none⟩ (.slice (some ⟨g7, 0, none⟩) (L + 8 + n + Z) c7)) m (.slice a L c) ⟨s.size, s.bs ++ newF zs, L, true⟩)) := fun w7 g7 c7 ho f => HZ.out w6 w7 g5 c5 g7 c7 hk6.out ho ((Fm.same ((Below.refl _ _).drew)).trans f)
    clear hk5 hk6 HZ HG HRD HP HST HRO HL hBs OWN HZL p1 pf1 p2 k1 k2 k3 f2 f3 j1 j2 j3 g2 g3 l1 l2 lf1 HK4 HB4 hk4 HS1 hb hb3
    go_region_law (first | (refine step_app0 (by rfl) _ _ (by rfl) B g5 (L + 8 + n) c5 Z _ (by rfl) (by rfl) (HO6.out _ ((Below.refl _ _).drew)) HB6.out (by omega) ?_; intro g7 c7 w7 ho7 f7; obtain ⟨⟨t1, t2⟩, HLF⟩ := HZ1.out _ _ _ ho7 f7.out; clear ho7 f7) | fail)
    all_goals (
      go_wp2
      go_ret
      exact ⟨rfl, HLF.out⟩)
  | true =>
    rw [hon, hs hon] at HST
    clear hs
    go_enter Try.func15, Try.ntmps15
    go_wp2_with (first | (go_at_call 12; refine HL.out.mono ?_; rintro e w1 ⟨rfl, hb⟩; obtain ⟨⟨k1, k2, k3, kf⟩, hs1⟩ := HST.out _ hb; have HS1 := hidden hs1; clear hs1; have f2 := kf 2; have f3 := kf 3; clear kf) | (go_at_call 47; refine HS1.out.mono ?_; rintro e w2 ⟨rfl, hb2⟩) | (go_at_call 48; refine (HRO.out _ hb2).mono ?_; rintro e w3 ⟨rfl, hb3⟩; obtain ⟨⟨j1, j2, j3, jf⟩, -⟩ := HST.out _ hb3; have g2 := jf 2; have g3 := jf 3; clear jf) | (go_at_call 49; refine (HP.out _ hb3).mono ?_; rintro e w4 ⟨rfl, a4, c4, ⟨l1, l2, lf⟩, hk4⟩; have lf1 := lf 1; clear lf; obtain ⟨HK4, HB4⟩ : Hid (w4.ownsRow B 5 1 (.slice a4 (L + 8) c4) (L + 8) (bytesV (s.bs ++ putsL [P + S, P]))) ∧ Hid (B ≤ w4.heap.size) := ⟨OWN.out _ _ _ hk4.out.1, hBs.out _ _ hk4.out.2⟩) | (at_builtin; refine wpList_app8 rfl _ _ rfl B _ (L + 8) (s.bs ++ putsL [P + S, P]) rfl HK4.out fx n fc zs rfl HZL.out (HRD.out _ _ hk4.out.2) (by omega) HB4.out (by omega) ?_; intro a5 c5 w5 ho5 f5; obtain ⟨⟨p1, pf, p2⟩, ⟨g5, rfl⟩, hk5⟩ := HG.out _ _ _ _ _ _ hk4.out ho5 f5.out; have pf1 := pf 1; clear pf ho5 f5))
    have hk6 := hk5
    generalize w5.setCell ⟨m, 1, none⟩ (.slice (some ⟨g5, 0, none⟩) (L + 8 + n) c5) = w6 at *
    have HB6 := hidden (hBs.out _ _ hk6.out.2)
    obtain ⟨r1, r2, rf, HO6⟩ : w6.cell? ⟨m, 1, none⟩ = some (.slice (some ⟨g5, 0, none⟩) (L + 8 + n) c5) ∧ w6.cell? ⟨m, 2, none⟩ = some (.int .i64 L) ∧ w6.frozen? ⟨m, 1, none⟩ = false ∧ Hid (∀ wx, Below w6.heap.size w6 wx → wx.ownsRow B 5 1 (.slice (some ⟨g5, 0, none⟩) (L + 8 + n) c5) (L + 8 + n) (bytesV (s.bs ++ putsL [P + S, P] ++ zs))) := by
      obtain ⟨_, q1, q2, _, qf⟩ := hk6.out.1.cells
      have el : (s.bs ++ putsL [P + S, P] ++ zs).length = L + 8 + n := by rw [List.length_append, List.length_append, putsL_len, hbs'.out, HZL.out]; rfl
      have ho := hk6.out.1.row
      simp only [el] at ho
      exact ⟨q1, q2, qf 1, fun wx hb => own_later ho hb⟩
    have HZ1 : Hid (∀ (w7 : World) (g7 c7 : Nat), w7.ownsRow B 5 1 (.slice (some ⟨g7, 0, none⟩) (L + 8 + n + Z) c7) (L + 8 + n + Z) (bytesV (s.bs ++ putsL [P + S, P] ++ zs ++ zer8 Z)) → Fm w6.drew w7 (fun k => (Value.slice (some ⟨g5, 0, none⟩) (L + 8 + n) c5).ownBlock = some k) (fun k => (Value.slice (some ⟨g7, 0, none⟩) (L + 8 + n + Z) c7).ownBlock = some k) → (w7.cell? ⟨m, 1, none⟩ = some (.slice (some ⟨g5, 0, none⟩) (L + 8 + n) c5) ∧ w7.frozen? ⟨m, 1, none⟩ = false) ∧ Hid (LeftK B w (w7.setCell ⟨m, 1, none⟩ (.slice (some ⟨g7, 0, none⟩) (L + 8 + n + Z) c7)) m (.slice a L c) ⟨s.size, s.bs ++ newF zs, L, true⟩)) := fun w7 g7 c7 ho f => HZ.out w6 w7 g5 c5 g7 c7 hk6.out ho ((Fm.same ((Below.refl _ _).drew)).trans f)
    clear hk5 hk6 HZ HG HRD HP HST HRO HL hBs OWN HZL p1 pf1 p2 k1 k2 k3 f2 f3 j1 j2 j3 g2 g3 l1 l2 lf1 HK4 HB4 hk4 HS1 hb hb2 hb3
    go_region_law (first | (refine step_app0 (by rfl) _ _ (by rfl) B g5 (L + 8 + n) c5 Z _ (by rfl) (by rfl) (HO6.out _ ((Below.refl _ _).drew)) HB6.out (by omega) ?_; intro g7 c7 w7 ho7 f7; obtain ⟨⟨t1, t2⟩, HLF⟩ := HZ1.out _ _ _ ho7 f7.out; clear ho7 f7) | fail)
    all_goals (
      go_wp2
      go_ret
      exact ⟨rfl, HLF.out⟩)
theorem kEnter_any (B m : Nat) (v : Value) (s : Ks) (fa : Option Addr) (n fc : Nat) (zs : List Int) (w : World) (h : KAt B w m v s) (hB : B ≤ w.heap.size) (ok : OkK s) (hr : Reads w fa n fc zs) (hz : OkB zs) (hn : n ≤ 100000) (hnt : ∀ x, fa = some x → ¬ TK m v x.block) :
    Calls Try.prog 15 #[.pointer (some ⟨m, 0, none⟩), .slice fa n fc] w fun e w' => e = .returned (.int .i64 (enterE s zs)) ∧ LeftK B w w' m v (enterS s zs) := by
  unfold enterS enterE
  by_cases h1 : (locR zs).2.2 ≠ 0 ∨ s.on = true ∧ stubE s ≠ 0
  · rw [if_pos h1, if_neg (by omega)]
    by_cases h0 : (locR zs).2.2 = 0
    · obtain ⟨h2, h3⟩ := h1.resolve_left (fun e => e h0)
      exact kEnter_stub B m v s fa n fc zs w h ok hr hz hn h0 h2 h3
    · exact kEnter_bad B m v s fa n fc zs w h ok hr hz hn h0
  · rw [if_neg h1]
    have h0 : (locR zs).2.2 = 0 := Classical.byContradiction fun e => h1 (.inl e)
    have hs : s.on = true → stubE s = 0 := fun hon => Classical.byContradiction fun e => h1 (.inr ⟨hon, e⟩)
    by_cases h2 : roomE s (posF zs + szF zs) ≠ 0
    · rw [if_pos h2, if_neg (by omega)]
      exact kEnter_over B m v s fa n fc zs w h ok hr hz hn h0 hs h2
    · rw [if_neg h2, if_pos rfl]
      have h3 : s.bs.length + (posF zs + szF zs) ≤ s.size := by
        unfold roomE at h2
        split at h2
        · simp at h2
        · omega
      obtain ⟨_, e2, e3⟩ := loc_zero h0
      have hl := hr.1
      have := fmtL_two e2
      cases fa with
      | none =>
        rcases hr.2.2 with ⟨_, h4, _⟩ | ⟨x, h4, _⟩
        · omega
        · cases h4
      | some fx => exact kEnter_good B m v s fx n fc zs w h hB ok hr hz hn (hnt fx rfl) h0 hs h3
end Go.Proofs.Ythhkennomnmjkaa
