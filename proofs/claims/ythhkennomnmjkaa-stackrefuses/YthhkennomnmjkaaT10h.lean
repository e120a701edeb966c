/- The document's stack: a frame on top. -/
import Derived.Test.YthhkennomnmjkaaT10g
namespace Go.Proofs.Ythhkennomnmjkaa
open Go.RowKit
set_option maxHeartbeats 1000000
set_option maxRecDepth 100000
set_option linter.unusedVariables false

theorem dlay_new (B m : Nat) (v : Value) (s : Ks) (xs : List Nat) (w : World) (h : DAt B w m v s) (hB : B ≤ w.heap.size) (hL : s.bs.length + 4 * xs.length ≤ 400000) (hx : ∀ x ∈ xs, x < 4294967296) :
    Calls Try.prog 58 #[.pointer (some ⟨m, 0, none⟩), .slice (some ⟨w.heap.size, 0, none⟩) xs.length xs.length] (w.alloc (.cells (xs.map (fun x : Nat => Value.int .u32 (x : Int))).toArray 23)) fun e w' => e = .returned (.tuple #[]) ∧ LeftD B w w' m v { s with bs := s.bs ++ putsL xs } := by
  have hb1 : Below w.heap.size w (w.alloc (.cells (xs.map (fun x : Nat => Value.int .u32 (x : Int))).toArray 23)) := (Below.refl _ _).alloc (Nat.le_refl _) _
  refine (dlay_any B m w.heap.size xs.length v s xs _ (h.later hb1) (Nat.le_trans hB hb1.size) hL hx (fun i hi => cells32 w xs i hi) (Nat.le_refl _) _ (fun _ => rfl)).mono ?_
  rintro e w' ⟨rfl, v', h3, h4⟩
  exact ⟨rfl, v', h3, (Fm.same hb1).trans h4⟩
theorem zer8_succ (j : Nat) : zer8 j ++ [0] = zer8 (j + 1) := by
  unfold zer8
  rw [List.replicate_succ']
/-- how many bytes lie on the document's stack -/
def lenAt (w : World) (m : Nat) : Nat := match w.cell? ⟨m, 0, none⟩ with
  | some (.slice _ n _) => n
  | _ => 0
theorem lenAt_of {w : World} {m n c : Nat} {a : Option Addr} (h : w.cell? ⟨m, 0, none⟩ = some (.slice a n c)) : lenAt w m = n := by
  unfold lenAt; rw [h]
theorem LeftD.dr {B : Nat} {w w1 w' : World} {m : Nat} {v : Value} {s : Ks} (l : LeftD B w w1 m v s) (hd : Dr w1 w') : LeftD B w w' m v s := by
  obtain ⟨v', h1, h2⟩ := l
  exact ⟨v', h1.later hd.below, h2.trans (Fm.same hd.below)⟩
set_option maxHeartbeats 4000000 in
theorem dEnter_good (B m : Nat) (v : Value) (s : Ks) (fx : Addr) (n fc : Nat) (zs : List Int) (w : World) (h : DAt B w m v s) (hB : B ≤ w.heap.size) (ok : OkK s) (hr : Reads w (some fx) n fc zs) (hz : OkB zs) (hn : n ≤ 100000) (hnt : ¬ TK m v fx.block) (h0 : (locR zs).2.2 = 0) (hs : s.on = true → stubE s = 0) (hro : s.bs.length + (posF zs + szF zs) ≤ s.size) :
    Calls Try.prog 23 #[.pointer (some ⟨m, 0, none⟩), .slice (some fx) n fc] w fun e w' => e = .returned (.int .i64 0) ∧ LeftD B w w' m v ⟨s.size, s.bs ++ newF zs, s.bs.length, true⟩ := by
  obtain ⟨e1, e2, e3⟩ := loc_zero h0
  have HL := hidden (dloc_any (some fx) n fc zs w hr hz hn)
  rw [e1] at HL
  simp only at HL
  obtain ⟨a, c, rfl, dc⟩ := h.dc
  have hps := posF_mod zs
  have hzl := hr.1
  have h2 := fmtL_two e2
  have hmo := ok.most
  have hsz := ok.sz
  have HV : Hid (∀ w1, Below w.heap.size w w1 → Calls Try.prog 57 #[.pointer (some ⟨m, 0, none⟩)] w1 fun e w' => ∃ C a' c', e = .returned (.slice a' C c') ∧ C ≤ 65536 ∧ EntV w' m s C a' c' ∧ (w'.cell? ⟨m, 0, none⟩ = some (.slice a s.bs.length c) ∧ w'.cell? ⟨m, 1, none⟩ = some (.int .i64 s.size)) ∧ Below w.heap.size w w') := fun w1 hb => (dvals_ent m a c s w1 (dc.later hb) ok hs).mono (fun e w' hh => by
    obtain ⟨C, a', c', he, hC, hv, hb2⟩ := hh
    have hbb := hb.trans (hb2.mono hb.size)
    exact ⟨C, a', c', he, hC, hv, ⟨(dc.later hbb).c0, (dc.later hbb).c1⟩, hbb⟩)
  have HST : Hid (∀ w1, Below w.heap.size w w1 → w1.cell? ⟨m, 0, none⟩ = some (.slice a s.bs.length c) ∧ w1.cell? ⟨m, 2, none⟩ = some (.int .i64 s.fr) ∧ w1.cell? ⟨m, 3, none⟩ = some (.bool s.on) ∧ (∀ j, w1.frozen? ⟨m, j, none⟩ = false)) := fun w1 hb => by
    obtain ⟨k0, _, k2, k3, kf⟩ := (h.later hb).cells
    exact ⟨k0, k2, k3, kf⟩
  have HP : Hid (∀ w1, Below w.heap.size w w1 → Calls Try.prog 58 #[.pointer (some ⟨m, 0, none⟩), .slice (some ⟨w1.heap.size, 0, none⟩) 2 2] ((((w1.setCell ⟨m, 2, none⟩ (.int .i64 s.bs.length)).setCell ⟨m, 3, none⟩ (.bool true))).alloc (.cells #[.int .u32 ((posF zs : Int) + (szF zs : Int)), .int .u32 (posF zs : Int)] 23)) fun e w' => e = .returned (.tuple #[]) ∧ ∃ g' c', (w'.cell? ⟨m, 0, none⟩ = some (.slice (some ⟨g', 0, none⟩) (s.bs.length + 8) c') ∧ (∀ j, w'.frozen? ⟨m, j, none⟩ = false)) ∧ Hid (w'.ownsRow B 5 1 (.slice (some ⟨g', 0, none⟩) (s.bs.length + 8) c') (s.bs.length + 8) (bytesV (s.bs ++ putsL [posF zs + szF zs, posF zs]))) ∧ Hid (DAt B w' m (.slice (some ⟨g', 0, none⟩) (s.bs.length + 8) c') ⟨s.size, s.bs ++ putsL [posF zs + szF zs, posF zs], s.bs.length, true⟩ ∧ Fm w w' (TK m (.slice a s.bs.length c)) (TK m (.slice (some ⟨g', 0, none⟩) (s.bs.length + 8) c')))) := fun w1 hb => by
    have h1 := h.later hb
    obtain ⟨g3, g4⟩ := h1.set2 s.bs.length
    obtain ⟨g5, g6⟩ := g3.set3 true
    have f0 := ((Fm.same (T := TK m (.slice a s.bs.length c)) hb).trans g4).trans g6
    have hk := dlay_new B m _ _ [posF zs + szF zs, posF zs] _ g5 (Nat.le_trans hB f0.size) (by simp; omega) (by simp; omega)
    simp only [List.map_cons, List.map_nil, List.length_cons, List.length_nil, Nat.zero_add, Int.natCast_add, World.size_setCell] at hk
    refine hk.mono ?_
    rintro e w' ⟨rfl, v', g7, g8⟩
    have el : (s.bs ++ putsL [posF zs + szF zs, posF zs]).length = s.bs.length + 8 := by rw [List.length_append, putsL_len]; rfl
    have ho := g7.row
    simp only [el] at ho
    obtain ⟨g', c', rfl, _, _⟩ := owned_shape ho (by omega)
    obtain ⟨k0, _, _, _, kf⟩ := g7.cells
    exact ⟨rfl, g', c', ⟨k0, kf⟩, ho, g7, f0.trans g8⟩
  have HRD : Hid (∀ (w' : World) (T' : Nat → Prop), Fm w w' (TK m (.slice a s.bs.length c)) T' → Reads w' (some fx) n fc zs) := fun w' T' f => hr.fm f hnt
  -- a row that is appended to
  have HG : Hid (∀ (w4 w5 : World) (g4 c4 g5 c5 L4 d : Nat) (bs4 ds : List Int), bs4.length = L4 → ds.length = d → DAt B w4 m (.slice (some ⟨g4, 0, none⟩) L4 c4) ⟨s.size, bs4, s.bs.length, true⟩ ∧ Fm w w4 (TK m (.slice a s.bs.length c)) (TK m (.slice (some ⟨g4, 0, none⟩) L4 c4)) → w5.ownsRow B 5 1 (.slice (some ⟨g5, 0, none⟩) (L4 + d) c5) (L4 + d) (bytesV (bs4 ++ ds)) → (∃ w4', Below w4.heap.size w4 w4' ∧ Fm w4' w5 (fun k => (Value.slice (some ⟨g4, 0, none⟩) L4 c4).ownBlock = some k) (fun k => (Value.slice (some ⟨g5, 0, none⟩) (L4 + d) c5).ownBlock = some k)) → (w5.cell? ⟨m, 0, none⟩ = some (.slice (some ⟨g4, 0, none⟩) L4 c4) ∧ w5.frozen? ⟨m, 0, none⟩ = false) ∧ Hid (DAt B (w5.setCell ⟨m, 0, none⟩ (.slice (some ⟨g5, 0, none⟩) (L4 + d) c5)) m (.slice (some ⟨g5, 0, none⟩) (L4 + d) c5) ⟨s.size, bs4 ++ ds, s.bs.length, true⟩ ∧ Fm w (w5.setCell ⟨m, 0, none⟩ (.slice (some ⟨g5, 0, none⟩) (L4 + d) c5)) (TK m (.slice a s.bs.length c)) (TK m (.slice (some ⟨g5, 0, none⟩) (L4 + d) c5)))) := fun w4 w5 g4 c4 g5 c5 L4 d bs4 ds hl4 hld hk ho hf => by
    obtain ⟨w4', hb4, f'⟩ := hf
    have f := (Fm.same (T := fun k => (Value.slice (some ⟨g4, 0, none⟩) L4 c4).ownBlock = some k) hb4).trans f'
    have el : (bs4 ++ ds).length = L4 + d := by rw [List.length_append, hl4, hld]
    have hm := f.block m hk.1.lt hk.1.ne
    obtain ⟨k0, _, _, _, kf⟩ := hk.1.cells
    obtain ⟨g1, g2⟩ := DAt.grown (zs := bs4 ++ ds) hk.1 f (by rw [el]; exact ho)
    exact ⟨⟨(World.cell?_of_block hm).trans k0, (World.frozen?_of_block hm).trans (kf 0)⟩, g1, hk.2.trans g2⟩
  have hBs : Hid (∀ (w' : World) (T' : Nat → Prop), Fm w w' (TK m (.slice a s.bs.length c)) T' → B ≤ w'.heap.size) := fun w' T' f => Nat.le_trans hB f.size
  have HEN : Hid (s.bs ++ putsL [posF zs + szF zs, posF zs] ++ zs ++ zer8 (posF zs + szF zs - 8 - n) = s.bs ++ newF zs) := by
    show _ = _
    unfold newF putsL
    rw [hzl]
    simp
  rw [e3, hzl] at h2
  have HZL := hidden hzl
  have hP8 : 8 + n ≤ posF zs := by omega
  have hfb : s.on = true → s.fr ≤ 65536 := fun hon => by have := (ok.bd hon).1; omega
  clear h ok hr hz dc e1 e2 e3 h0 hnt hzl hps hs
  generalize posF zs = P at *
  generalize szF zs = S at *
  generalize hbs : s.bs.length = L at *
  generalize hZZ : s.size = Z at *
  have hw1 : IntKind.i64.wrap ((P : Int) + (S : Int)) = (P : Int) + (S : Int) := by rw [IntKind.wrap_i64]; omega
  have hw2 : IntKind.u32.wrap ((P : Int) + (S : Int)) = (P : Int) + (S : Int) := by rw [IntKind.wrap_u32]; omega
  have hw3 : IntKind.u32.wrap (P : Int) = (P : Int) := by rw [IntKind.wrap_u32]; omega
  have hw4 : IntKind.i64.wrap ((L : Int) + (P : Int)) = (L : Int) + (P : Int) := by rw [IntKind.wrap_i64]; omega
  have hw5 : IntKind.i64.wrap ((L : Int) + (P : Int) + (S : Int)) = (L : Int) + (P : Int) + (S : Int) := by rw [IntKind.wrap_i64]; omega
  have d9 : ¬ (L : Int) + (P : Int) + (S : Int) > (Z : Int) := by omega
  have hLb : L + P + S ≤ 65536 := by omega
  have hbs' := hidden hbs
  clear hbs hZZ
  have HL8 : Hid ((s.bs ++ putsL [P + S, P]).length = L + 8) := by
    show _ = _
    rw [List.length_append, putsL_len, hbs'.out]; rfl
  cases hon : s.on with
  | false =>
    go_enter Try.func23, Try.ntmps23
    go_wp2_with (first | (go_at_call 56; refine HL.out.mono ?_; rintro e w1 ⟨rfl, hb⟩) | (go_at_call 57; refine (HV.out _ hb).mono ?_; rintro e w2 ⟨C, a', c', rfl, hC, hv, ⟨k0, k1⟩, hb2⟩; obtain ⟨k2, k3, -⟩ := hv; rw [hon] at k3))
    go_quiet (fail)
    all_goals (try go_wp2)
    have hdd : Below w.heap.size w (w2.drewN nq) := hb2.trans ((Dr.below ⟨_, rfl⟩).mono hb2.size)
    have k0q : (w2.drewN nq).cell? ⟨m, 0, none⟩ = some (.slice a L c) := k0
    have k1q : (w2.drewN nq).cell? ⟨m, 1, none⟩ = some (.int .i64 Z) := k1
    generalize w2.drewN nq = w3 at *
    go_quiet (fail)
    have hd4 : Below w.heap.size w (w3.drewN nq) := hdd.trans ((Dr.below ⟨_, rfl⟩).mono hdd.size)
    obtain ⟨j0, j2, j3, jf⟩ := HST.out _ hd4
    have jf2 := jf 2
    have jf3 := jf 3
    generalize w3.drewN nq = w4 at *
    clear jf
    all_goals (try go_wp2_with (first | (go_at_call 58; refine (HP.out _ hd4).mono ?_; rintro e w5 ⟨rfl, g5, c5, ⟨l0, lf⟩, ho5, hk5⟩; have lf0 := lf 0; have HB5 := hidden (hBs.out _ _ hk5.out.2); have HR5 := hidden (HRD.out _ _ hk5.out.2); clear lf) | (at_builtin; refine wpList_appR rfl (.tmp 81) (.tmp 82) rfl B g5 (L + 8) c5 n fc (some fx) _ zs rfl rfl ho5.out HR5.out (by omega) HB5.out ?_; intro g6 c6 w6 ho6 f6; obtain ⟨⟨p0, pf⟩, hk6⟩ := HG.out w5 w6 g5 c5 g6 c6 (L + 8) n _ zs HL8.out HZL.out hk5.out ho6 ⟨w5, Below.refl _ _, f6.out⟩; clear ho6 f6)))
    have hk7 := hk6
    generalize w6.setCell ⟨m, 0, none⟩ (.slice (some ⟨g6, 0, none⟩) (L + 8 + n) c6) = w7 at *
    clear hk6 hk5 ho5 HB5 HR5 p0 pf l0 lf0 j0 j2 j3 jf2 jf3 hd4 hdd k0q k1q k0 k1 k2 k3 hb hb2 HP HST HV HL HRD
    go_loopw [86] (fun _ wr => ∃ (j g c7 n7 : Nat), Hid (n7 = L + 8 + n + j) ∧ n7 ≤ L + P + S ∧ Hid (DAt B wr m (.slice (some ⟨g, 0, none⟩) n7 c7) ⟨Z, s.bs ++ putsL [P + S, P] ++ zs ++ zer8 j, L, true⟩ ∧ Fm w wr (TK m (.slice a L c)) (TK m (.slice (some ⟨g, 0, none⟩) n7 c7)))) (fun _ wr => L + P + S - lenAt wr m)
    case atStart => exact ⟨0, g6, c6, L + 8 + n, hidden (by omega), by omega, by simpa [zer8] using hk7⟩
    case round =>
      clear hk7
      obtain ⟨j, g, c7, n7, HN7, hn7, hk⟩ := hrel
      obtain ⟨q0, q1, q2, q3, qf⟩ := hk.out.1.cells
      have qf0 := qf 0
      have HLN : Hid (lenAt wr m = n7) := lenAt_of q0
      have HROW : Hid (∀ wx, Below wr.heap.size wr wx → wx.ownsRow B 5 1 (.slice (some ⟨g, 0, none⟩) n7 c7) n7 (bytesV (s.bs ++ putsL [P + S, P] ++ zs ++ zer8 j)) ∧ B ≤ wx.heap.size) := fun wx hb => by
        have ho := hk.out.1.row
        have el : (s.bs ++ putsL [P + S, P] ++ zs ++ zer8 j).length = n7 := by rw [List.length_append, List.length_append, HL8.out, HZL.out, zer8_len, HN7.out]
        simp only [el] at ho
        exact ⟨own_later ho hb, Nat.le_trans (hBs.out _ _ hk.out.2) hb.size⟩
      have HL9 : Hid ((s.bs ++ putsL [P + S, P] ++ zs ++ zer8 j).length = n7) := by
        show _ = _
        rw [List.length_append, List.length_append, HL8.out, HZL.out, zer8_len, HN7.out]
      clear q1 q3 qf
      by_cases hlt : n7 < L + P + S
      · have d1 : (n7 : Int) < (L : Int) + (P : Int) + (S : Int) := by omega
        go_wp2
        go_quiet (fail)
        have hdr : Below wr.heap.size wr (wr.drewN nq) := Dr.below ⟨_, rfl⟩
        have q0' : (wr.drewN nq).cell? ⟨m, 0, none⟩ = some (.slice (some ⟨g, 0, none⟩) n7 c7) := q0
        generalize wr.drewN nq = wz at *
        have HA8 : Hid (∃ hb : Below wr.heap.size wr (wz.alloc (.cells #[.int .u8 0] 5)), Reads (wz.alloc (.cells #[.int .u8 0] 5)) (some ⟨wz.heap.size, 0, none⟩) 1 1 [0]) := ⟨hdr.alloc hdr.size _, own_reads (owns_new wz 0 [0] (Nat.zero_le _) (by unfold maxLen; decide))⟩
        all_goals (try go_wp2_with (first | (at_builtin; refine wpList_appR rfl (.tmp 104) (.tmp 105) rfl B g n7 c7 1 1 (some ⟨wz.heap.size, 0, none⟩) _ [0] rfl rfl (HROW.out _ HA8.out.1).1 HA8.out.2 (by omega) (HROW.out _ HA8.out.1).2 ?_; intro g8 c8 w8 ho8 f8; obtain ⟨⟨p0, pf⟩, hk8⟩ := HG.out wr w8 g c7 g8 c8 n7 1 _ [0] HL9.out rfl hk.out ho8 ⟨_, HA8.out.1, f8.out⟩; clear ho8 f8)))
        go_roundw
        case rel => exact ⟨j + 1, g8, c8, n7 + 1, by have := HN7.out; show n7 + 1 = _; omega, by omega, by rw [← zer8_succ, ← List.append_assoc]; exact hk8⟩
        case measure =>
          have h1 := HLN.out
          have h2 : lenAt (w8.setCell ⟨m, 0, none⟩ (.slice (some ⟨g8, 0, none⟩) (n7 + 1) c8)) m = n7 + 1 := lenAt_of hk8.out.1.cells.1
          rw [h1, h2]; omega
      · obtain rfl : n7 = L + P + S := by omega
        have d1 : ¬ ((L + P + S : Nat) : Int) < (L : Int) + (P : Int) + (S : Int) := by omega
        have HJ : Hid (j = P + S - 8 - n) := by have := HN7.out; show j = _; omega
        have hkf : LeftD B w wr m (.slice a L c) ⟨Z, s.bs ++ newF zs, L, true⟩ := by
          have := hk.out
          rw [HJ.out, HEN.out] at this
          exact ⟨_, this⟩
        have HKF := hidden hkf
        clear hkf hk HROW
        go_wp2
        go_quiet (fail)
        all_goals (try go_wp2)
        go_ret
        exact ⟨rfl, LeftD.dr HKF.out ⟨_, rfl⟩⟩
  | true =>
    have hfb1 := hfb hon
    generalize hff : s.fr = f at *
    have hwf : IntKind.i64.wrap (f : Int) = (f : Int) := by rw [IntKind.wrap_i64]; omega
    go_enter Try.func23, Try.ntmps23
    go_wp2_with (first | (go_at_call 56; refine HL.out.mono ?_; rintro e w1 ⟨rfl, hb⟩) | (go_at_call 57; refine (HV.out _ hb).mono ?_; rintro e w2 ⟨C, a', c', rfl, hC, hv, ⟨k0, k1⟩, hb2⟩; obtain ⟨k2, k3, kv⟩ := hv; obtain ⟨h4, g, rfl, hcc, kc⟩ := kv hon; rw [hon] at k3; rw [hff] at k2 kc; clear kv; have dd : decide ((C : Int) < 4) = false := by (simp; omega)))
    have hwc : IntKind.i64.wrap ((C : Int) - 1) = (C : Int) - 1 := by rw [IntKind.wrap_i64]; omega
    have tc : ((C : Int) - 1).toNat = C - 1 := by omega
    have hc1 : (0 : Int) ≤ (C : Int) - 1 := by omega
    have hc2 : (C : Int) - 1 < (C : Int) := by omega
    have kc' : w2.cell? ⟨g, ((C : Int) - 1).toNat, none⟩ = some (.int .u32 f) := by rw [tc]; exact kc
    go_quiet (fail)
    all_goals (try go_wp2)
    have hdd : Below w.heap.size w (w2.drewN nq) := hb2.trans ((Dr.below ⟨_, rfl⟩).mono hb2.size)
    have k0q : (w2.drewN nq).cell? ⟨m, 0, none⟩ = some (.slice a L c) := k0
    have k1q : (w2.drewN nq).cell? ⟨m, 1, none⟩ = some (.int .i64 Z) := k1
    generalize w2.drewN nq = w3 at *
    go_quiet (fail)
    have hd4 : Below w.heap.size w (w3.drewN nq) := hdd.trans ((Dr.below ⟨_, rfl⟩).mono hdd.size)
    obtain ⟨j0, j2, j3, jf⟩ := HST.out _ hd4
    have jf2 := jf 2
    have jf3 := jf 3
    generalize w3.drewN nq = w4 at *
    clear jf
    all_goals (try go_wp2_with (first | (go_at_call 58; refine (HP.out _ hd4).mono ?_; rintro e w5 ⟨rfl, g5, c5, ⟨l0, lf⟩, ho5, hk5⟩; have lf0 := lf 0; have HB5 := hidden (hBs.out _ _ hk5.out.2); have HR5 := hidden (HRD.out _ _ hk5.out.2); clear lf) | (at_builtin; refine wpList_appR rfl (.tmp 81) (.tmp 82) rfl B g5 (L + 8) c5 n fc (some fx) _ zs rfl rfl ho5.out HR5.out (by omega) HB5.out ?_; intro g6 c6 w6 ho6 f6; obtain ⟨⟨p0, pf⟩, hk6⟩ := HG.out w5 w6 g5 c5 g6 c6 (L + 8) n _ zs HL8.out HZL.out hk5.out ho6 ⟨w5, Below.refl _ _, f6.out⟩; clear ho6 f6)))
    have hk7 := hk6
    generalize w6.setCell ⟨m, 0, none⟩ (.slice (some ⟨g6, 0, none⟩) (L + 8 + n) c6) = w7 at *
    clear kc kc' hk6 hk5 ho5 HB5 HR5 p0 pf l0 lf0 j0 j2 j3 jf2 jf3 hd4 hdd k0q k1q k0 k1 k2 k3 hb hb2 HP HST HV HL HRD
    go_loopw [86] (fun _ wr => ∃ (j g c7 n7 : Nat), Hid (n7 = L + 8 + n + j) ∧ n7 ≤ L + P + S ∧ Hid (DAt B wr m (.slice (some ⟨g, 0, none⟩) n7 c7) ⟨Z, s.bs ++ putsL [P + S, P] ++ zs ++ zer8 j, L, true⟩ ∧ Fm w wr (TK m (.slice a L c)) (TK m (.slice (some ⟨g, 0, none⟩) n7 c7)))) (fun _ wr => L + P + S - lenAt wr m)
    case atStart => exact ⟨0, g6, c6, L + 8 + n, hidden (by omega), by omega, by simpa [zer8] using hk7⟩
    case round =>
      clear hk7
      obtain ⟨j, g, c7, n7, HN7, hn7, hk⟩ := hrel
      obtain ⟨q0, q1, q2, q3, qf⟩ := hk.out.1.cells
      have qf0 := qf 0
      have HLN : Hid (lenAt wr m = n7) := lenAt_of q0
      have HROW : Hid (∀ wx, Below wr.heap.size wr wx → wx.ownsRow B 5 1 (.slice (some ⟨g, 0, none⟩) n7 c7) n7 (bytesV (s.bs ++ putsL [P + S, P] ++ zs ++ zer8 j)) ∧ B ≤ wx.heap.size) := fun wx hb => by
        have ho := hk.out.1.row
        have el : (s.bs ++ putsL [P + S, P] ++ zs ++ zer8 j).length = n7 := by rw [List.length_append, List.length_append, HL8.out, HZL.out, zer8_len, HN7.out]
        simp only [el] at ho
        exact ⟨own_later ho hb, Nat.le_trans (hBs.out _ _ hk.out.2) hb.size⟩
      have HL9 : Hid ((s.bs ++ putsL [P + S, P] ++ zs ++ zer8 j).length = n7) := by
        show _ = _
        rw [List.length_append, List.length_append, HL8.out, HZL.out, zer8_len, HN7.out]
      clear q1 q3 qf
      by_cases hlt : n7 < L + P + S
      · have d1 : (n7 : Int) < (L : Int) + (P : Int) + (S : Int) := by omega
        go_wp2
        go_quiet (fail)
        have hdr : Below wr.heap.size wr (wr.drewN nq) := Dr.below ⟨_, rfl⟩
        have q0' : (wr.drewN nq).cell? ⟨m, 0, none⟩ = some (.slice (some ⟨g, 0, none⟩) n7 c7) := q0
        generalize wr.drewN nq = wz at *
        have HA8 : Hid (∃ hb : Below wr.heap.size wr (wz.alloc (.cells #[.int .u8 0] 5)), Reads (wz.alloc (.cells #[.int .u8 0] 5)) (some ⟨wz.heap.size, 0, none⟩) 1 1 [0]) := ⟨hdr.alloc hdr.size _, own_reads (owns_new wz 0 [0] (Nat.zero_le _) (by unfold maxLen; decide))⟩
        all_goals (try go_wp2_with (first | (at_builtin; refine wpList_appR rfl (.tmp 104) (.tmp 105) rfl B g n7 c7 1 1 (some ⟨wz.heap.size, 0, none⟩) _ [0] rfl rfl (HROW.out _ HA8.out.1).1 HA8.out.2 (by omega) (HROW.out _ HA8.out.1).2 ?_; intro g8 c8 w8 ho8 f8; obtain ⟨⟨p0, pf⟩, hk8⟩ := HG.out wr w8 g c7 g8 c8 n7 1 _ [0] HL9.out rfl hk.out ho8 ⟨_, HA8.out.1, f8.out⟩; clear ho8 f8)))
        go_roundw
        case rel => exact ⟨j + 1, g8, c8, n7 + 1, by have := HN7.out; show n7 + 1 = _; omega, by omega, by rw [← zer8_succ, ← List.append_assoc]; exact hk8⟩
        case measure =>
          have h1 := HLN.out
          have h2 : lenAt (w8.setCell ⟨m, 0, none⟩ (.slice (some ⟨g8, 0, none⟩) (n7 + 1) c8)) m = n7 + 1 := lenAt_of hk8.out.1.cells.1
          rw [h1, h2]; omega
      · obtain rfl : n7 = L + P + S := by omega
        have d1 : ¬ ((L + P + S : Nat) : Int) < (L : Int) + (P : Int) + (S : Int) := by omega
        have HJ : Hid (j = P + S - 8 - n) := by have := HN7.out; show j = _; omega
        have hkf : LeftD B w wr m (.slice a L c) ⟨Z, s.bs ++ newF zs, L, true⟩ := by
          have := hk.out
          rw [HJ.out, HEN.out] at this
          exact ⟨_, this⟩
        have HKF := hidden hkf
        clear hkf hk HROW
        go_wp2
        go_quiet (fail)
        all_goals (try go_wp2)
        go_ret
        exact ⟨rfl, LeftD.dr HKF.out ⟨_, rfl⟩⟩
end Go.Proofs.Ythhkennomnmjkaa
