/- A memory in order (OkM); contracts of Malloc and Free of package memory. Contracts of slices.Grow and slices.Concat over bytes, and of mayBeRam and loadHeap of package memory. Contract of Load of package memory. Contract of New of package memory, where the game is one. The small game of the statements of layer 9, and its memory. -/
import Derived.Test.YtmebjbnglndfcaaY9H
import Derived.Lib.AppendZeros
import Derived.Handy
import Derived.Test.YtmebjbnglndfcaaH7k
import Derived.Test.YtmebjbnglndfcaaH7m
namespace Go.Proofs.Ytmebjbnglndfcaa
open Go.RowKit
set_option maxHeartbeats 1000000
set_option maxRecDepth 100000
set_option linter.unusedVariables false

structure OkM (s : Ms) : Prop where
  r0 : 0 < s.ram
  rg : s.ram < s.game.length
  gl : s.game.length ≤ s.en
  en : s.en ≤ 1048576
  bl : s.ram ≤ s.bytes.length
  bm : s.bytes.length ≤ 1048576
  bp : s.bytes.length % 256 = 0
  pp : s.pf ≤ s.pt
  ptm : s.pt ≤ 8589934592
  okb : OkB s.bytes
  okg : OkB s.game
  hs : OkS s.hp
  most : s.hp.most = 1048576
  act : 0 < s.hp.bs.length → s.hp.en = s.bytes.length ∧ s.ram ≤ s.hp.start
theorem insB_pos (s : Hs) (n x : Nat) : 0 < (insB s n x).length := by rw [insB_len]; omega
/-- what Malloc makes of a heap in a memory of so many bytes -/
theorem malloc_facts {s t : Hs} {n x a : Nat} (ok : OkS s) (hm : s.most = 1048576) (hr : mallocR s n x = some (a, t)) (ha : 0 < s.bs.length → s.en = x) :
    0 < t.bs.length ∧ x ≤ t.en ∧ t.en ≤ 1048576 ∧ t.en % 256 = 0 ∧ t.most = 1048576 ∧ t.start = (if s.bs.length = 0 then x else s.start) := by
  have ok' := ok_malloc_to ok hr
  have hmost : t.most = s.most := by have := most_malloc s n x; unfold mallocS at this; rw [hr] at this; exact this
  have hpos : 0 < t.bs.length ∧ t.start = stR s x ∧ enR s x ≤ t.en := by
    unfold mallocR at hr
    split at hr
    · cases hr
    · split at hr
      · cases hr
      · split at hr
        · cases hr; exact ⟨insB_pos s n x, rfl, Nat.le_refl _⟩
        · split at hr
          · cases hr
          · cases hr
            refine ⟨insB_pos s n x, rfl, ?_⟩
            have := up_ge ((place n (stR s x) s.bs).2 + n)
            show enR s x ≤ up _
            omega
  obtain ⟨h1, h2, h3⟩ := hpos
  obtain ⟨k1, k2, k3, k4, k5⟩ := ok'.some h1
  refine ⟨h1, ?_, by rw [hmost, hm] at k4; exact k4, k3, by rw [hmost, hm], h2⟩
  unfold enR at h3
  by_cases hz : s.bs.length = 0
  · rw [if_pos hz] at h3; exact h3
  · rw [if_neg hz, ha (by omega)] at h3; exact h3
theorem malloc_mem_no (B m gb gc bb bc h : Nat) (hv : Value) (s : Ms) (n : Nat) (w : World) (H : MAt B w m gb gc bb bc h hv s) (hB : B ≤ w.heap.size) (ok : OkM s) (hn : n < 4294967296) (hr : mallocR s.hp n s.bytes.length = none) :
    Calls Try.prog 26 #[.pointer (some ⟨m, 0, none⟩), .int .u32 n] w fun e w' => e = .returned (.int .u32 0) ∧ LeftM B w w' m gb gc bb h hv s := by
  obtain ⟨c1, c3, c8, c9, c10, c11, c12, cf⟩ := H.box.cells
  have hbm := ok.bm
  have HS := hidden (fun w' (q9 : w'.cell? ⟨m, 9, none⟩ = some (.slice (some ⟨bb, 0, none⟩) s.bytes.length bc)) => size_any m s.bytes.length bc _ w' q9 (by omega))
  have hwd : Below w.heap.size w w.drew := ⟨rfl, rfl, rfl, Nat.le_refl _, fun _ _ => rfl⟩
  have HM := hidden (malloc_no B h hv s.hp n s.bytes.length w.drew (H.heap.later hwd) hB ok.hs hn (by omega) hr)
  have fin : ∀ w' : World, Left B w.drew w' h hv s.hp → LeftM B w w' m gb gc bb h hv s := fun w' ⟨v', hp, f⟩ => ⟨bb, bc, h, v', (H.later hwd).step hp f, (Fm.same hwd).trans (Fm.heap f m bb)⟩
  have keep : ∀ w' : World, Left B w.drew w' h hv s.hp → w'.cell? ⟨m, 10, none⟩ = some (.pointer (some ⟨h, 0, none⟩)) ∧ w'.cell? ⟨m, 9, none⟩ = some (.slice (some ⟨bb, 0, none⟩) s.bytes.length bc) := fun w' ⟨v', hp, f⟩ => by
    obtain ⟨d1, d3, d8, d9, d10, _⟩ := ((H.later hwd).step hp f).box.cells
    exact ⟨d10, d9⟩
  have FIN := hidden fin
  have KEEP := hidden keep
  clear fin keep H c1 c3 c8 c11 c12 cf hr ok
  generalize s.bytes.length = L at *
  go_enter Try.func26, Try.ntmps26
  go_wp2
  go_region_held3 (fun w' => w'.cell? ⟨m, 10, none⟩ = some (.pointer (some ⟨h, 0, none⟩)) ∧ w'.cell? ⟨m, 9, none⟩ = some (.slice (some ⟨bb, 0, none⟩) L bc)) (first | assumption | exact ⟨by assumption, by assumption⟩ | go_keep) (first | (go_at_call 36; refine (HS.out w.drew c9).mono ?_; rintro e w9 ⟨rfl, e9⟩; rw [e9]; clear e9) | (go_at_call 47; refine HM.out.mono ?_; rintro e w1 ⟨rfl, l1⟩; obtain ⟨k10, k9⟩ := KEEP.out _ l1) | fail)
  all_goals (try go_wp2)
  all_goals go_ret
  all_goals (exact ⟨rfl, FIN.out _ l1⟩)
theorem malloc_mem_ok (B m gb gc bb bc h : Nat) (hv : Value) (s : Ms) (n a : Nat) (t : Hs) (w : World) (H : MAt B w m gb gc bb bc h hv s) (hB : B ≤ w.heap.size) (ok : OkM s) (hn : n < 4294967296) (hr : mallocR s.hp n s.bytes.length = some (a, t)) :
    Calls Try.prog 26 #[.pointer (some ⟨m, 0, none⟩), .int .u32 n] w fun e w' => e = .returned (.int .u32 a) ∧ LeftM B w w' m gb gc bb h hv { s with hp := t, bytes := s.bytes.take t.en ++ zer8 (t.en - s.bytes.length) } := by
  obtain ⟨c1, c3, c8, c9, c10, c11, c12, cf⟩ := H.box.cells
  have hbm := ok.bm
  obtain ⟨f1, f2, f3, f4, f5, f6⟩ := malloc_facts ok.hs ok.most hr (fun hh => (ok.act hh).1)
  have HS := hidden (fun w' (q9 : w'.cell? ⟨m, 9, none⟩ = some (.slice (some ⟨bb, 0, none⟩) s.bytes.length bc)) => size_any m s.bytes.length bc _ w' q9 (by omega))
  have hwd : Below w.heap.size w w.drew := ⟨rfl, rfl, rfl, Nat.le_refl _, fun _ _ => rfl⟩
  have HM := hidden (malloc_to B h hv s.hp t n s.bytes.length a w.drew (H.heap.later hwd) hB ok.hs hn (by omega) hr)
  have keep : ∀ w' : World, Left B w.drew w' h hv t → w'.cell? ⟨m, 10, none⟩ = some (.pointer (some ⟨h, 0, none⟩)) ∧ w'.cell? ⟨m, 9, none⟩ = some (.slice (some ⟨bb, 0, none⟩) s.bytes.length bc) := fun w' ⟨v', hp, f⟩ => by
    obtain ⟨d1, d3, d8, d9, d10, _⟩ := ((H.later hwd).step hp f).box.cells
    exact ⟨d10, d9⟩
  have endc : ∀ w' : World, Left B w.drew w' h hv t → Calls Try.prog 48 #[.pointer (some ⟨h, 0, none⟩)] w' fun e w'' => e = .returned (.int .u32 t.en) ∧ w'' = w' := fun w' ⟨v', hp, f⟩ => end_any B h v' t w' hp
  have fin : ∀ w' : World, Left B w.drew w' h hv t → Calls Try.prog 45 #[.pointer (some ⟨m, 0, none⟩), .int .u32 t.en] w' fun e w'' => e = .returned (.tuple #[]) ∧ LeftM B w w'' m gb gc bb h hv { s with hp := t, bytes := s.bytes.take t.en ++ zer8 (t.en - s.bytes.length) } := fun w' ⟨v', hp, f⟩ => by
    have H1 := (H.later hwd).step hp f
    have hbl := ok.bl
    refine (endAt_any B m gb gc bb bc h v' { s with hp := t } t.en w' H1 (by have := f.size; exact Nat.le_trans hB this) f3 ok.bm ok.bl (Nat.le_trans ok.bl f2) ok.rg ok.r0).mono ?_
    rintro e w'' ⟨rfl, b1, k1, H2, g2⟩
    exact ⟨rfl, b1, k1, h, v', H2, ((Fm.same hwd).trans (Fm.heap f m bb)).trans g2⟩
  have FIN := hidden fin
  have KEEP := hidden keep
  have ENDC := hidden endc
  clear fin keep endc H c1 c3 c8 c11 c12 cf hr ok f1 f2 f3 f4 f5 f6
  generalize hL : s.bytes.length = L at *
  have HL := hidden hL
  clear hL
  generalize t.en = EN at *
  go_enter Try.func26, Try.ntmps26
  go_wp2
  go_region_held3 (fun w' => w'.cell? ⟨m, 10, none⟩ = some (.pointer (some ⟨h, 0, none⟩)) ∧ w'.cell? ⟨m, 9, none⟩ = some (.slice (some ⟨bb, 0, none⟩) L bc)) (first | assumption | exact ⟨by assumption, by assumption⟩ | go_keep) (first | (go_at_call 36; refine (HS.out w.drew c9).mono ?_; rintro e w9 ⟨rfl, e9⟩; rw [e9]; clear e9) | (go_at_call 47; refine HM.out.mono ?_; rintro e w1 ⟨rfl, l1⟩; obtain ⟨k10, k9⟩ := KEEP.out _ l1) | fail)
  all_goals (go_wp2_with (first | (go_at_call 48; refine (ENDC.out _ l1).mono ?_; rintro e w9 ⟨rfl, e9⟩; rw [e9]; clear e9) | (go_at_call 45; refine (FIN.out _ l1).mono ?_; rintro e w2 ⟨rfl, l2⟩) | fail))
  all_goals go_ret
  all_goals (exact ⟨rfl, l2⟩)
theorem free_mem_no (B m gb gc bb bc h : Nat) (hv : Value) (s : Ms) (x : Nat) (w : World) (H : MAt B w m gb gc bb bc h hv s) (ok : OkM s) (hr : idxB x s.hp.bs = s.hp.bs.length) :
    Calls Try.prog 27 #[.pointer (some ⟨m, 0, none⟩), .int .u32 x] w fun e w' => e = .returned (.int .i64 92) ∧ LeftM B w w' m gb gc bb h hv s := by
  obtain ⟨c1, c3, c8, c9, c10, c11, c12, cf⟩ := H.box.cells
  have HST := hidden (start_any B h hv s.hp w H.heap)
  have HF := hidden (free_any B h hv s.hp x w H.heap ok.hs.len)
  rw [show freeE s.hp x = 5 by unfold freeE; rw [if_pos hr], show freeS s.hp x = s.hp by unfold freeS; rw [if_pos hr]] at HF
  have fin : ∀ w' : World, Left B w w' h hv s.hp → LeftM B w w' m gb gc bb h hv s := fun w' ⟨v', hp, f⟩ => ⟨bb, bc, h, v', H.step hp f, Fm.heap f m bb⟩
  have FIN := hidden fin
  clear fin H c1 c3 c8 c9 c11 c12 cf hr ok
  go_enter Try.func27, Try.ntmps27
  go_wp2_with (first | (go_at_call 41; refine HST.out.mono ?_; rintro e w9 ⟨rfl, e9⟩; rw [e9]; clear e9) | (go_at_call 49; refine HF.out.mono ?_; rintro e w1 ⟨rfl, l1⟩) | fail)
  go_ret
  exact ⟨rfl, FIN.out _ l1⟩
theorem free_mem_more (B m gb gc bb bc h : Nat) (hv : Value) (s : Ms) (x : Nat) (w : World) (H : MAt B w m gb gc bb bc h hv s) (ok : OkM s) (hr : idxB x s.hp.bs ≠ s.hp.bs.length) (h1 : s.hp.bs.length ≠ 1) :
    Calls Try.prog 27 #[.pointer (some ⟨m, 0, none⟩), .int .u32 x] w fun e w' => e = .returned (.int .i64 0) ∧ LeftM B w w' m gb gc bb h hv { s with hp := freeS s.hp x } := by
  obtain ⟨c1, c3, c8, c9, c10, c11, c12, cf⟩ := H.box.cells
  have HST := hidden (start_any B h hv s.hp w H.heap)
  have HF := hidden (free_any B h hv s.hp x w H.heap ok.hs.len)
  have hle := idxB_le x s.hp.bs
  have hpos : 0 < (freeS s.hp x).bs.length := by
    unfold freeS
    rw [if_neg hr, if_neg h1]
    simp
    omega
  rw [show freeE s.hp x = 0 by unfold freeE; rw [if_neg hr]] at HF
  generalize freeS s.hp x = t at *
  have HAC := hidden (fun w' (l : Left B w w' h hv t) => by
    obtain ⟨v', hp, f⟩ := l
    have := active_any B h v' t w' hp
    rw [show decide (0 < t.bs.length) = true by simp [hpos]] at this
    exact this)
  have fin : ∀ w' : World, Left B w w' h hv t → LeftM B w w' m gb gc bb h hv { s with hp := t } := fun w' ⟨v', hp, f⟩ => ⟨bb, bc, h, v', H.step hp f, Fm.heap f m bb⟩
  have keep : ∀ w' : World, Left B w w' h hv t → w'.cell? ⟨m, 10, none⟩ = some (.pointer (some ⟨h, 0, none⟩)) := fun w' ⟨v', hp, f⟩ => by
    obtain ⟨d1, d3, d8, d9, d10, _⟩ := (H.step hp f).box.cells
    exact d10
  have FIN := hidden fin
  have KEEP := hidden keep
  clear fin keep H c1 c3 c8 c9 c11 c12 cf hr ok hpos h1 hle
  go_enter Try.func27, Try.ntmps27
  go_wp2_with (first | (go_at_call 41; refine HST.out.mono ?_; rintro e w9 ⟨rfl, e9⟩; rw [e9]; clear e9) | (go_at_call 49; refine HF.out.mono ?_; rintro e w1 ⟨rfl, l1⟩; have k10 := KEEP.out _ l1) | (go_at_call 43; refine (HAC.out _ l1).mono ?_; rintro e w9 ⟨rfl, e9⟩; rw [e9]; clear e9) | fail)
  go_ret
  exact ⟨rfl, FIN.out _ l1⟩
theorem free_mem_last (B m gb gc bb bc h : Nat) (hv : Value) (s : Ms) (x : Nat) (w : World) (H : MAt B w m gb gc bb bc h hv s) (hB : B ≤ w.heap.size) (ok : OkM s) (hr : idxB x s.hp.bs ≠ s.hp.bs.length) (h1 : s.hp.bs.length = 1) :
    Calls Try.prog 27 #[.pointer (some ⟨m, 0, none⟩), .int .u32 x] w fun e w' => e = .returned (.int .i64 0) ∧ LeftM B w w' m gb gc bb h hv { s with hp := freeS s.hp x, bytes := s.bytes.take s.hp.start ++ zer8 (s.hp.start - s.bytes.length) } := by
  obtain ⟨c1, c3, c8, c9, c10, c11, c12, cf⟩ := H.box.cells
  have HST := hidden (start_any B h hv s.hp w H.heap)
  have HF := hidden (free_any B h hv s.hp x w H.heap ok.hs.len)
  have hle := idxB_le x s.hp.bs
  have hz : (freeS s.hp x).bs.length = 0 := by
    unfold freeS
    rw [if_neg hr, if_pos h1]
    simp
    omega
  obtain ⟨k1, k2, k3, k4, k5⟩ := ok.hs.some (by omega)
  have hst : s.hp.start ≤ 1048576 := by have := Chain.le k5; rw [ok.most] at k4; omega
  have hra := (ok.act (by omega)).2
  rw [show freeE s.hp x = 0 by unfold freeE; rw [if_neg hr]] at HF
  generalize freeS s.hp x = t at *
  have HAC := hidden (fun w' (l : Left B w w' h hv t) => by
    obtain ⟨v', hp, f⟩ := l
    have := active_any B h v' t w' hp
    rw [show decide (0 < t.bs.length) = false by simp [hz]] at this
    exact this)
  have fin : ∀ w' : World, Left B w w' h hv t → Calls Try.prog 45 #[.pointer (some ⟨m, 0, none⟩), .int .u32 s.hp.start] w' fun e w'' => e = .returned (.tuple #[]) ∧ LeftM B w w'' m gb gc bb h hv { s with hp := t, bytes := s.bytes.take s.hp.start ++ zer8 (s.hp.start - s.bytes.length) } := fun w' ⟨v', hp, f⟩ => by
    have H1 := H.step hp f
    refine (endAt_any B m gb gc bb bc h v' { s with hp := t } s.hp.start w' H1 (by have := f.size; exact Nat.le_trans hB this) hst ok.bm ok.bl hra ok.rg ok.r0).mono ?_
    rintro e w'' ⟨rfl, b1, k1, H2, g2⟩
    exact ⟨rfl, b1, k1, h, v', H2, (Fm.heap f m bb).trans g2⟩
  have keep : ∀ w' : World, Left B w w' h hv t → w'.cell? ⟨m, 10, none⟩ = some (.pointer (some ⟨h, 0, none⟩)) := fun w' ⟨v', hp, f⟩ => by
    obtain ⟨d1, d3, d8, d9, d10, _⟩ := (H.step hp f).box.cells
    exact d10
  have FIN := hidden fin
  have KEEP := hidden keep
  clear fin keep H c1 c3 c8 c9 c11 c12 cf hr ok hz h1 hle k1 k2 k3 k4 k5 hst hra
  generalize s.hp.start = ST at *
  go_enter Try.func27, Try.ntmps27
  go_wp2_with (first | (go_at_call 41; refine HST.out.mono ?_; rintro e w9 ⟨rfl, e9⟩; rw [e9]; clear e9) | (go_at_call 49; refine HF.out.mono ?_; rintro e w1 ⟨rfl, l1⟩; have k10 := KEEP.out _ l1) | (go_at_call 43; refine (HAC.out _ l1).mono ?_; rintro e w9 ⟨rfl, e9⟩; rw [e9]; clear e9) | (go_at_call 45; refine (FIN.out _ l1).mono ?_; rintro e w2 ⟨rfl, l2⟩) | fail)
  go_ret
  exact ⟨rfl, l2⟩
end Go.Proofs.Ytmebjbnglndfcaa
namespace Go.Proofs.Ytmebjbnglndfcaa
open Go.RowKit
set_option maxHeartbeats 1000000
set_option maxRecDepth 100000
set_option linter.unusedVariables false

theorem grow_nil (n : Nat) (w : World) (h0 : 0 < n) (hn : n ≤ 4294967296) :
    Calls Try.prog 72 #[.slice none 0 0, .int .i64 n] w fun e w' => ∃ c, e = .returned (.slice (some ⟨w.heap.size, 0, none⟩) 0 c) ∧ w'.ownsRow w.heap.size 5 1 (.slice (some ⟨w.heap.size, 0, none⟩) 0 c) 0 [] ∧ Below w.heap.size w w' := by
  obtain ⟨i0, hi, hz0, hz1, hz2⟩ := info_parts info8
  have hrun := fun ty => Lib.run_append_nil_zeros (P := Try.prog) w 28 3 ty 5 i0 (.int .u8 0) .i64 .i64 Try.underlying28 Try.underlying3 hi hz0 n h0 (by omega) (by omega) (by rw [hz2]; omega)
  have hge := grownCap_ge w n 0 5
  have hcm : grownCap w n 0 5 ≤ maxLen := grownCap_le_maxLen w n 0 5 (by unfold maxLen; omega)
  have hh := heap_alloc_new w.drew (.cells (Builtin.zeroCells (Value.int .u8 0).cells n ++ Builtin.zeroCells (Value.int .u8 0).cells (grownCap w n 0 5 - n)) 5)
  have hb : Below w.heap.size w (w.drew.alloc (.cells (Builtin.zeroCells (Value.int .u8 0).cells n ++ Builtin.zeroCells (Value.int .u8 0).cells (grownCap w n 0 5 - n)) 5)) := ⟨rfl, rfl, rfl, by simp, fun k hk => Go.heap_alloc_old _ _ hk⟩
  have hc : (Builtin.zeroCells (Value.int .u8 0).cells n ++ Builtin.zeroCells (Value.int .u8 0).cells (grownCap w n 0 5 - n)) = (bytesV (zer8 n) ++ bytesV (zer8 (grownCap w n 0 5 - n))).toArray := by rw [zc8a, zc8a]; simp
  rw [hc] at hh hb
  simp only [hc] at hrun
  have hb2 : ∀ q, (bytesV (zer8 q)).length = q := fun q => by simp [bytesV, zer8]
  have ho : (w.drew.alloc (.cells (bytesV (zer8 n) ++ bytesV (zer8 (grownCap w n 0 5 - n))).toArray 5)).ownsRow w.heap.size 5 1 (.slice (some ⟨w.heap.size, 0, none⟩) 0 (grownCap w n 0 5)) 0 (bytesV []) :=
    own8_of (Nat.le_refl _) hh (Nat.zero_le _) hcm (by simp only [List.length_append, hb2]; omega) (by simp [bytesV]) rfl
  have HO := hidden ho
  have HB := hidden hb
  have HRUN := hidden hrun
  generalize grownCap w n 0 5 = C at *
  generalize w.drew.alloc (.cells (bytesV (zer8 n) ++ bytesV (zer8 (C - n))).toArray 5) = w1 at *
  have q1 : ¬ (n : Int) < 0 := by omega
  have q2 : (n : Int) > 0 := by omega
  have q3 : (0 : Int) < (n : Int) := by omega
  clear ho hb hrun hh hc hb2
  go_enter Try.func72, Try.ntmps72
  go_wp2_with (at_builtin; refine Lib.wpList_append_run _ rfl (.tmp 20) (.tmp 21) 28 3 rfl _ _ rfl rfl _ _ (HRUN.out _) ?_)
  go_ret
  exact ⟨_, rfl, HO.out, HB.out⟩
theorem concat_any (q b1 o1 n1 c1 b2 o2 n2 c2 : Nat) (xs ys : List Int) (w : World) (k0 : w.cell? ⟨q, 0, none⟩ = some (.slice (some ⟨b1, o1, none⟩) n1 c1)) (k1 : w.cell? ⟨q, 1, none⟩ = some (.slice (some ⟨b2, o2, none⟩) n2 c2))
    (h1 : Bs w b1 o1 n1 xs) (h2 : Bs w b2 o2 n2 ys) (hn : n1 + n2 ≤ 4294967296) (h0 : 0 < n1) (hc1 : n1 ≤ c1) (hc2 : n2 ≤ c2) :
    Calls Try.prog 52 #[.slice (some ⟨q, 0, none⟩) 2 2] w fun e w' => ∃ g c, e = .returned (.slice (some ⟨g, 0, none⟩) (n1 + n2) c) ∧ w'.ownsRow w.heap.size 5 1 (.slice (some ⟨g, 0, none⟩) (n1 + n2) c) (n1 + n2) (bytesV (xs ++ ys)) ∧ Below w.heap.size w w' := by
  obtain ⟨i0, hi, hz0, hz1, hz2⟩ := info_parts info8
  have HG := hidden (grow_nil (n1 + n2) w (by omega) hn)
  have H1 := hidden h1
  have H2 := hidden h2
  have K0 := hidden k0
  have K1 := hidden k1
  have w1 : IntKind.i64.wrap ((n1 : Int) + (n2 : Int)) = ((n1 + n2 : Nat) : Int) := by rw [IntKind.wrap_i64]; omega
  have p1 : ¬ (n1 : Int) < 0 := by omega
  have p2 : ¬ ((n1 + n2 : Nat) : Int) < 0 := by omega
  clear h1 h2
  go_enter Try.func52, Try.ntmps52
  go_wp2
  refine wp_loop_rounds 3 ?_
  rw [rounds_succ]; go_wp2_with fail
  rw [rounds_succ]; go_wp2_with fail
  rw [rounds_succ]; go_wp2_with fail
  refine HG.out.mono ?_
  rintro e w2 ⟨C, rfl, ho, hb⟩
  have hx1 := H1.out.later hb
  have hy1 := H2.out.later hb
  have kk0 := cellLater hb K0.out
  have kk1 := cellLater hb K1.out
  have HO := hidden ho
  have HX := hidden ((hx1.reads c1 hc1).news)
  have HY := hidden hy1
  have HB := hidden hb
  have hsz := hb.size
  have HXL := hidden (show (bytesV xs).length = n1 * 1 by simp [bytesV, hx1.1])
  clear ho hb hx1 hy1 k0 k1
  go_wp2_with fail
  refine wp_loop_rounds 3 ?_
  rw [rounds_succ]
  go_wp2_with (at_builtin; refine wpList_append_own _ rfl (.tmp 31) (.tmp 32) 28 rfl w.heap.size 5 i0 (.int .u8 0) 1 1 Try.underlying28 hi hz0 hz1 hz2 rfl (by decide) _ _ _ rfl HO.out ⟨b1, o1, none⟩ n1 c1 (bytesV xs) rfl HXL.out HX.out (bytesV_one _) (by unfold maxLen; omega) (by omega) (by omega) ?_; intro v3 w3 hown3 hgrow3 hiff3; clear hiff3)
  have hg3 : w2.grownBy w3 (some w.heap.size) := hgrow3
  have hb3 : Below w.heap.size w w3 := HB.out.grown hg3 (by omega) (fun j hj => by cases hj; exact Nat.le_refl _)
  rw [Nat.zero_add, List.nil_append] at hown3
  have ll0 := cellLater hb3 K0.out
  have ll1 := cellLater hb3 K1.out
  have hy3 := H2.out.later hb3
  have HO3 := hidden hown3
  have HY3 := hidden ((hy3.reads c2 hc2).news)
  have HYL := hidden (show (bytesV ys).length = n2 * 1 by simp [bytesV, hy3.1])
  have HB3 := hidden hb3
  have hsz3 := hb3.size
  have HLT := hidden hown3.lt
  clear hgrow3 hg3 hb3 hown3 hy3 kk0 kk1
  rw [rounds_succ]
  go_wp2_with (at_builtin; refine wpList_append_own _ rfl (.tmp 31) (.tmp 32) 28 rfl w.heap.size 5 i0 (.int .u8 0) 1 1 Try.underlying28 hi hz0 hz1 hz2 rfl (by decide) _ _ _ rfl HO3.out ⟨b2, o2, none⟩ n2 c2 (bytesV ys) rfl HYL.out HY3.out (bytesV_one _) (by unfold maxLen; omega) (by omega) (by omega) ?_; intro v4 w4 hown4 hgrow4 hiff4; clear hiff4)
  have hg4 : w3.grownBy w4 v3.ownBlock := hgrow4
  have hb4 : Below w.heap.size w w4 := HB3.out.grown hg4 hsz3 (fun j hj => (HLT.out j hj).1)
  have HO4 := hidden hown4
  have HB4 := hidden hb4
  have mm0 := cellLater hb4 K0.out
  clear hown4 hgrow4 hg4 hb4
  rw [rounds_succ]
  go_wp2
  go_ret
  have hown4 := HO4.out
  rw [bytesV_append] at hown4
  obtain ⟨g, cap, e, _, _⟩ := owned_shape hown4 (by omega)
  cases e
  exact ⟨_, _, rfl, hown4, HB4.out⟩
def ramR (r en L : Nat) : Bool := decide (L ≤ 1048576 - r) && endR en (r + L)
theorem mayBeRam_any (m r en L c : Nat) (a : Option Addr) (w : World) (h1 : w.cell? ⟨m, 1, none⟩ = some (.int .u32 r)) (h3 : w.cell? ⟨m, 3, none⟩ = some (.int .u32 en)) (hr : r ≤ 1048576) (hL : L ≤ 4611686018427387904) :
    Calls Try.prog 50 #[.pointer (some ⟨m, 0, none⟩), .slice a L c] w fun e w' => e = .returned (.bool (ramR r en L)) ∧ w' = w := by
  have w0 : IntKind.i64.wrap (r : Int) = r := by rw [IntKind.wrap_i64]; omega
  have w1 : IntKind.i64.wrap (1048576 - (r : Int)) = 1048576 - (r : Int) := by rw [IntKind.wrap_i64]; omega
  by_cases hl : L ≤ 1048576 - r
  · have q1 : (L : Int) ≤ 1048576 - (r : Int) := by omega
    have w2 : IntKind.u32.wrap (L : Int) = L := by rw [IntKind.wrap_u32]; omega
    have w3 : IntKind.u32.wrap ((r : Int) + (L : Int)) = ((r + L : Nat) : Int) := by rw [IntKind.wrap_u32]; omega
    have HE := hidden (mayEnd_any m en (r + L) w h3 (by omega))
    have e : ramR r en L = endR en (r + L) := by simp [ramR, hl]
    rw [e]; clear e
    generalize endR en (r + L) = R at *
    generalize hA : r + L = A at *
    have HA := hidden hA
    clear hA
    go_enter Try.func50, Try.ntmps50
    go_wp2_with (go_at_call 44; refine HE.out.mono ?_; rintro e w9 ⟨rfl, e9⟩; rw [e9]; clear e9)
    go_ret
    first | exact ⟨rfl, rfl⟩ | (refine ⟨?_, rfl⟩; simp_all)
  · have q1 : ¬ (L : Int) ≤ 1048576 - (r : Int) := by omega
    have e : ramR r en L = false := by simp [ramR, hl]
    rw [e]; clear e
    go_enter Try.func50, Try.ntmps50
    go_wp2
    go_ret
    first | exact ⟨rfl, rfl⟩ | (refine ⟨?_, rfl⟩; simp_all)
theorem loadHeap_any (B m gb gc bb bc h : Nat) (hv : Value) (s : Ms) (x L : Nat) (ao : Option Addr) (n c : Nat) (bs : List Bk) (w : World) (H : MAt B w m gb gc bb bc h hv s) (hB : B ≤ w.heap.size) (hk : Bks w ao n c bs) (hf : FitB bs) (hx : x < 4294967296) (hL : s.ram + L ≤ 1048576) :
    Calls Try.prog 51 #[.pointer (some ⟨m, 0, none⟩), .int .u32 x, .int .i64 L, .slice ao n c] w fun e w' => e = .returned (.bool (loadE s.hp x (if n = 0 then 0 else s.ram + L) bs == 0)) ∧ Left B w w' h hv (loadS s.hp x (if n = 0 then 0 else s.ram + L) bs) := by
  obtain ⟨c1, c3, c8, c9, c10, c11, c12, cf⟩ := H.box.cells
  have w2 : IntKind.u32.wrap (L : Int) = L := by rw [IntKind.wrap_u32]; omega
  have w3 : IntKind.u32.wrap ((s.ram : Int) + (L : Int)) = ((s.ram + L : Nat) : Int) := by rw [IntKind.wrap_u32]; omega
  by_cases hn : n = 0
  · rw [if_pos hn]
    subst hn
    have HL := hidden (load_any B h hv s.hp x 0 ao 0 c bs w H.heap hB hk hf hx (by omega))
    have q : (((loadE s.hp x 0 bs : Nat) : Int) == 0) = (loadE s.hp x 0 bs == 0) := by
      cases loadE s.hp x 0 bs with
      | zero => rfl
      | succ k => simp; omega
    generalize loadE s.hp x 0 bs = E at *
    generalize loadS s.hp x 0 bs = T at *
    clear H c3 c8 c9 c11 c12 cf hk
    generalize s.ram = R at *
    generalize hA : R + L = A at *
    have HA := hidden hA
    clear hA
    go_enter Try.func51, Try.ntmps51
    go_wp2_with (go_at_call 71; refine HL.out.mono ?_; rintro e w1 ⟨rfl, l1⟩)
    go_ret
    first | exact ⟨rfl, l1⟩ | (refine ⟨?_, l1⟩; simp_all)
  · rw [if_neg hn]
    have HL := hidden (load_any B h hv s.hp x (s.ram + L) ao n c bs w H.heap hB hk hf hx (by omega))
    have q : (((loadE s.hp x (s.ram + L) bs : Nat) : Int) == 0) = (loadE s.hp x (s.ram + L) bs == 0) := by
      cases loadE s.hp x (s.ram + L) bs with
      | zero => rfl
      | succ k => simp; omega
    generalize loadE s.hp x (s.ram + L) bs = E at *
    generalize loadS s.hp x (s.ram + L) bs = T at *
    have q0 : ((n : Int) == 0) = false := by rw [beq_eq_false_iff_ne]; omega
    clear H c3 c8 c9 c11 c12 cf hk hn
    generalize s.ram = R at *
    generalize hA : R + L = A at *
    have HA := hidden hA
    clear hA
    go_enter Try.func51, Try.ntmps51
    go_wp2_with (go_at_call 71; refine HL.out.mono ?_; rintro e w1 ⟨rfl, l1⟩)
    go_ret
    first | exact ⟨rfl, l1⟩ | (refine ⟨?_, l1⟩; simp_all)
end Go.Proofs.Ytmebjbnglndfcaa
namespace Go.Proofs.Ytmebjbnglndfcaa
open Go.RowKit
set_option maxHeartbeats 1000000
set_option maxRecDepth 100000
set_option linter.unusedVariables false

/-- what Load answers, and what it makes of a memory -/
def ldE (s : Ms) (zs : List Int) (x : Nat) (bs : List Bk) : Nat := if 4096 < bs.length then 4 else if ramR s.ram s.en zs.length = false then 1 else if loadE s.hp x (if bs.length = 0 then 0 else s.ram + zs.length) bs = 0 then 0 else 1
def ldS (s : Ms) (zs : List Int) (x : Nat) (bs : List Bk) : Ms := if ldE s zs x bs = 0 then { s with hp := loadS s.hp x (if bs.length = 0 then 0 else s.ram + zs.length) bs, bytes := carL s.pf s.pt s.bytes (s.game.take s.ram ++ zs) } else s
theorem load_many_mem (m : Nat) (v u : Value) (x : Nat) (ao : Option Addr) (n c : Nat) (w : World) (hn : 4096 < n) :
    Calls Try.prog 28 #[.pointer (some ⟨m, 0, none⟩), v, .int .u32 x, .slice ao n c] w fun e w' => e = .returned (.int .i64 4) ∧ w' = w := by
  have q : (n : Int) > 4096 := by omega
  have q2 : (4096 : Int) < (n : Int) := by omega
  go_enter Try.func28, Try.ntmps28
  go_wp2
  go_ret
  exact ⟨rfl, rfl⟩
theorem load_ram_mem (m r en : Nat) (a : Option Addr) (L k : Nat) (x : Nat) (ao : Option Addr) (n c : Nat) (w : World) (h1 : w.cell? ⟨m, 1, none⟩ = some (.int .u32 r)) (h3 : w.cell? ⟨m, 3, none⟩ = some (.int .u32 en)) (hr : r ≤ 1048576) (hL : L ≤ 4611686018427387904) (hn : n ≤ 4096) (hb : ramR r en L = false) :
    Calls Try.prog 28 #[.pointer (some ⟨m, 0, none⟩), .slice a L k, .int .u32 x, .slice ao n c] w fun e w' => e = .returned (.int .i64 1) ∧ w' = w := by
  have q : ¬ (n : Int) > 4096 := by omega
  have q2 : ¬ (4096 : Int) < (n : Int) := by omega
  have HM := hidden (mayBeRam_any m r en L k a w h1 h3 hr hL)
  rw [hb] at HM
  go_enter Try.func28, Try.ntmps28
  go_wp2_with (go_at_call 50; refine HM.out.mono ?_; rintro e w9 ⟨rfl, e9⟩; rw [e9]; clear e9)
  go_ret
  exact ⟨rfl, rfl⟩
theorem load_hp_mem (B m gb gc bb bc h : Nat) (hv : Value) (s : Ms) (a : Option Addr) (L k : Nat) (x : Nat) (ao : Option Addr) (n c : Nat) (bs : List Bk) (w : World) (H : MAt B w m gb gc bb bc h hv s) (hB : B ≤ w.heap.size) (hk : Bks w ao n c bs) (hf : FitB bs) (hx : x < 4294967296) (hL : s.ram + L ≤ 1048576) (hn : n ≤ 4096) (hb : ramR s.ram s.en L = true) (hE : loadE s.hp x (if n = 0 then 0 else s.ram + L) bs ≠ 0) (hS : loadS s.hp x (if n = 0 then 0 else s.ram + L) bs = s.hp) :
    Calls Try.prog 28 #[.pointer (some ⟨m, 0, none⟩), .slice a L k, .int .u32 x, .slice ao n c] w fun e w' => e = .returned (.int .i64 1) ∧ LeftM B w w' m gb gc bb h hv s := by
  obtain ⟨c1, c3, c8, c9, c10, c11, c12, cf⟩ := H.box.cells
  have q : ¬ (n : Int) > 4096 := by omega
  have q2 : ¬ (4096 : Int) < (n : Int) := by omega
  have HM := hidden (mayBeRam_any m s.ram s.en L k a w c1 c3 (by omega) (by omega))
  rw [hb] at HM
  have HL := hidden (loadHeap_any B m gb gc bb bc h hv s x L ao n c bs w H hB hk hf hx hL)
  rw [hS, show (loadE s.hp x (if n = 0 then 0 else s.ram + L) bs == 0) = false by simpa using hE] at HL
  have fin : ∀ w' : World, Left B w w' h hv s.hp → LeftM B w w' m gb gc bb h hv s := fun w' ⟨v', hp, f⟩ => ⟨bb, bc, h, v', H.step hp f, Fm.heap f m bb⟩
  have FIN := hidden fin
  clear fin H c1 c3 c8 c9 c10 c11 c12 cf hE hS hk hb
  go_enter Try.func28, Try.ntmps28
  go_wp2_with (first | (go_at_call 50; refine HM.out.mono ?_; rintro e w9 ⟨rfl, e9⟩; rw [e9]; clear e9) | (go_at_call 51; refine HL.out.mono ?_; rintro e w1 ⟨rfl, l1⟩) | fail)
  go_ret
  exact ⟨rfl, FIN.out _ l1⟩
theorem MAt.newrow {B : Nat} {w w1 : World} {m gb gc bb bc h g c : Nat} {hv : Value} {s : Ms} {zs : List Int} (H : MAt B w m gb gc bb bc h hv s) (hb : Below w.heap.size w w1) (ho : w1.ownsRow w.heap.size 5 1 (.slice (some ⟨g, 0, none⟩) zs.length c) zs.length (bytesV zs)) (hB : B ≤ w.heap.size) :
    MAt B (w1.setCell ⟨m, 9, none⟩ (.slice (some ⟨g, 0, none⟩) zs.length c)) m gb gc g c h hv { s with bytes := zs } ∧ Fm w (w1.setCell ⟨m, 9, none⟩ (.slice (some ⟨g, 0, none⟩) zs.length c)) (Tch m h bb hv) (Tch m h g hv) := by
  have H1 := H.later hb
  have hgl := (ho.lt g rfl).1
  have hgb := (H.game.lt gb rfl).2
  have hmh : h ≠ m := fun e => H1.box.neh H1.heap.2.1 e.symm
  refine ⟨⟨H.base, H1.box.set9 _ zs, ownsRow_setCell_other H1.game (by simpa using H1.box.ne8 H1.game) _, ownsRow_setCell_other (own_base ho hB) (by simpa using H1.box.ne8 ho) _, ⟨H.heap.1, ?_, ownsRow_setCell_other H1.heap.2.2 (by simpa using H1.box.neb H1.heap.2.2) _⟩, by show gb ≠ g; omega⟩, ?_⟩
  · rw [heap_setCell_other _ _ _ _ (show h ≠ m from hmh)]; exact H1.heap.2.1
  · refine ⟨hb.os, hb.tape, hb.output, by simpa using hb.size, fun k hk hn => ?_, fun k e => ?_⟩
    · rw [heap_setCell_other _ _ _ _ (show k ≠ m from fun e => hn (.inl e))]; exact hb.block k hk
    · rcases e with e | e | e | e
      · exact .inl (.inl e)
      · exact .inr (by omega)
      · exact .inl (.inr (.inr (.inl e)))
      · exact .inl (.inr (.inr (.inr e)))
theorem load_ok_mem (B m gb gc bb bc h : Nat) (hv : Value) (s : Ms) (b o L k : Nat) (zs : List Int) (x : Nat) (ao : Option Addr) (n c : Nat) (bs : List Bk) (t : Hs) (w : World) (H : MAt B w m gb gc bb bc h hv s) (hB : B ≤ w.heap.size) (hz : Bs w b o L zs) (hzb : b < B) (hkk : L ≤ k) (hk : Bks w ao n c bs) (hf : FitB bs) (hx : x < 4294967296) (hL : s.ram + L ≤ 1048576) (hn : n ≤ 4096) (hb : ramR s.ram s.en L = true) (hE : loadE s.hp x (if n = 0 then 0 else s.ram + L) bs = 0) (hS : loadS s.hp x (if n = 0 then 0 else s.ram + L) bs = t) (hr0 : 0 < s.ram) (hrg : s.ram ≤ s.game.length) (hbl : s.bytes.length ≤ 1048576) (hpp : s.pf ≤ s.pt) (hp : s.pt ≤ 8589934592) :
    Calls Try.prog 28 #[.pointer (some ⟨m, 0, none⟩), .slice (some ⟨b, o, none⟩) L k, .int .u32 x, .slice ao n c] w fun e w' => e = .returned (.int .i64 0) ∧ LeftM B w w' m gb gc bb h hv { s with hp := t, bytes := carL s.pf s.pt s.bytes (s.game.take s.ram ++ zs) } := by
  obtain ⟨c1, c3, c8, c9, c10, c11, c12, cf⟩ := H.box.cells
  have q : ¬ (n : Int) > 4096 := by omega
  have q2 : ¬ (4096 : Int) < (n : Int) := by omega
  have HM := hidden (mayBeRam_any m s.ram s.en L k (some ⟨b, o, none⟩) w c1 c3 (by omega) (by omega))
  rw [hb] at HM
  have HL := hidden (loadHeap_any B m gb gc bb bc h hv s x L ao n c bs w H hB hk hf hx hL)
  rw [hS, show (loadE s.hp x (if n = 0 then 0 else s.ram + L) bs == 0) = true by simpa using hE] at HL
  have HH := hidden H
  have HZ := hidden hz
  clear H c1 c3 c8 c9 c10 c11 c12 cf hE hS hk hb hz
  go_enter Try.func28, Try.ntmps28
  go_wp2_with fail
  go_at_call 50
  refine HM.out.mono ?_
  rintro e w9 ⟨rfl, e9⟩
  rw [e9]; clear e9 w9
  go_wp2_with fail
  refine HL.out.mono ?_
  rintro e w1 ⟨rfl, hv1, hp1, f1⟩
  have H1 := HH.out.step hp1 f1
  have hB1 : B ≤ w1.heap.size := Nat.le_trans hB f1.size
  have hbel1 : Below B w w1 := f1.below HH.out.heap hB
  have hz1 : Bs w1 b o L zs := ⟨HZ.out.1, fun i hi => by rw [hbel1.cell (by exact hzb)]; exact HZ.out.2 i hi⟩
  have F1 := hidden (Fm.heap f1 m bb)
  have HH1 := hidden H1
  have HZ1 := hidden hz1
  obtain ⟨c1, c3, c8, c9, c10, c11, c12, cf⟩ := H1.box.cells
  obtain ⟨_, _, _, hgc, _, _, _, hgl⟩ := own8_cur H1.game
  have HR := hidden (rom_any m gb s.game.length gc s.ram w1 c8 c1 hrg hgc)
  clear H1 hz1 hp1 f1 hbel1 HM HL HZ HH c1 c3 c8 c9 c10 c11 c12 cf
  go_wp2_with fail
  refine HR.out.mono ?_
  rintro e w2 ⟨rfl, hb2⟩
  have HB2 := hidden hb2
  clear HR hb2
  go_wp2_with fail
  have hb3 : Below w1.heap.size w1 (w2.alloc (.cells #[.slice (some ⟨gb, 0, none⟩) s.ram gc, .slice (some ⟨b, o, none⟩) L k] 28)) := HB2.out.alloc HB2.out.size _
  have hg3 := own_bs (own8_take (own_later HH1.out.game hb3) s.ram hrg)
  have HC := hidden (concat_any w2.heap.size gb 0 s.ram gc b o L k (s.game.take s.ram) zs _ (by rw [World.cell?_alloc_at _ _ _ _ rfl]; rfl) (by rw [World.cell?_alloc_at _ _ _ _ rfl]; rfl) hg3 (HZ1.out.later hb3) (by omega) hr0 (by omega) hkk)
  refine HC.out.mono ?_
  rintro e w4 ⟨g, cg, rfl, ho4, hb4⟩
  have hb14 : Below w1.heap.size w1 w4 := hb3.trans (hb4.mono hb3.size)
  have ho4' := own_base (B := w1.heap.size) ho4 hb3.size
  have H4 := HH1.out.later hb14
  obtain ⟨c1, c3, c8, c9, c10, c11, c12, cf⟩ := H4.box.cells
  have hgl4 := (ho4'.lt g rfl)
  have hml := HH1.out.box.lt
  obtain ⟨_, _, _, hbc, _, _, _, _⟩ := own8_cur H4.row
  have hzl := HZ1.out.1
  have hcar := carry_any bb 0 s.bytes.length bc g (s.ram + L) cg s.pf s.pt s.bytes (s.game.take s.ram ++ zs) w1.heap.size w4.drew (own_bs H4.row) hbc ho4' (by omega) (by omega) hpp hp
  have HBC := hidden (become_core m g (s.ram + L) cg s.pf s.pt _ s.bytes.length bc w4 (fun w' => w'.ownsRow w1.heap.size 5 1 (.slice (some ⟨g, 0, none⟩) (s.ram + L) cg) (s.ram + L) (bytesV (carL s.pf s.pt s.bytes (s.game.take s.ram ++ zs))) ∧ Fm w4.drew w' (fun x => x = g) (fun x => x = g)) c9 c11 c12 hcar (fun w' ⟨_, f⟩ => by
    have hb' : MBox w' m { s with hp := t } (.slice (some ⟨gb, 0, none⟩) s.game.length gc) (.slice (some ⟨bb, 0, none⟩) s.bytes.length bc) (.pointer (some ⟨h, 0, none⟩)) := by
      unfold MBox
      rw [f.block m H4.box.lt (fun e => by omega)]; exact H4.box
    obtain ⟨q1, q3, q8, q9, q10, q11, q12, qf⟩ := hb'.cells
    exact ⟨q9, qf 9, q11, q12⟩))
  have fin : ∀ w5 : World, (w5.ownsRow w1.heap.size 5 1 (.slice (some ⟨g, 0, none⟩) (s.ram + L) cg) (s.ram + L) (bytesV (carL s.pf s.pt s.bytes (s.game.take s.ram ++ zs))) ∧ Fm w4.drew w5 (fun x => x = g) (fun x => x = g)) → LeftM B w (w5.setCell ⟨m, 9, none⟩ (.slice (some ⟨g, 0, none⟩) (s.ram + L) cg)) m gb gc bb h hv { s with hp := t, bytes := carL s.pf s.pt s.bytes (s.game.take s.ram ++ zs) } := fun w5 ⟨ho5, f5⟩ => by
    have hb5 : Below w1.heap.size w1 w5 := ⟨f5.os.trans hb14.os, f5.tape.trans hb14.tape, f5.output.trans hb14.output, Nat.le_trans hb14.size f5.size, fun k hk => by rw [f5.block k (show k < w4.heap.size by have := hb14.size; omega) (fun e => by omega)]; exact hb14.block k hk⟩
    have hcl : (carL s.pf s.pt s.bytes (s.game.take s.ram ++ zs)).length = s.ram + L := by rw [carL_len]; simp; omega
    have key := HH1.out.newrow (zs := carL s.pf s.pt s.bytes (s.game.take s.ram ++ zs)) (g := g) (c := cg) hb5 (by rw [hcl]; exact ho5) hB1
    rw [hcl] at key
    exact ⟨g, cg, h, hv1, key.1, F1.out.trans key.2⟩
  have FIN := hidden fin
  clear fin HC hb3 hg3 ho4 hb4 hb14 ho4' H4 c1 c3 c8 c9 c10 c11 c12 cf hcar HB2 HH1 HZ1 F1
  go_wp2_with fail
  refine HBC.out.mono ?_
  rintro e w6 ⟨rfl, w5, rfl, hp5⟩
  go_wp2
  go_ret
  exact ⟨rfl, FIN.out _ hp5⟩
end Go.Proofs.Ytmebjbnglndfcaa
namespace Go.Proofs.Ytmebjbnglndfcaa
open Go.RowKit
set_option maxHeartbeats 1000000
set_option maxRecDepth 100000
set_option linter.unusedVariables false

theorem new_ok (a : Option Addr) (L cap : Nat) (zs : List Int) (w : World) (h : Reads w a L cap zs) (hb : OkB zs) (hL : L ≤ 1048576) (h0 : 0 < L) (v ext st start tab sm : Int) (R EN : Nat) (hp : parseH zs = (⟨v, R, ext, EN, st, start, tab, sm⟩, 0, 36)) (hen : EN ≤ 1048576) (hle : L ≤ EN) :
    Calls Try.prog 25 #[.slice a L cap] w fun e w' => ∃ m gb gc g h, e = .returned (.tuple #[.pointer (some ⟨m, 0, none⟩), .int .i64 0, .int .i64 36]) ∧ MAt w.heap.size w' m gb gc g EN h (.slice none 0 0) ⟨v, R, ext, EN, st, start, tab, sm, zs, zs ++ zer8 (EN - L), ⟨1048576, 0, 0, []⟩, 0, 0⟩ ∧ Below w.heap.size w w' := by
  have HP := hidden (parse_any a L cap zs w h hb (by omega))
  rw [hp] at HP
  have HR := hidden h
  have hzl := h.1
  clear h hp
  go_enter Try.func25, Try.ntmps25
  go_wp2_with fail
  refine HP.out.mono ?_
  rintro e w1 ⟨rfl, hb1⟩
  go_wp2_with fail
  have hb2 : Below w.heap.size w (w1.alloc (.cells #[.int .u32 v, .int .u32 (R : Int), .int .u32 ext, .int .u32 (EN : Int), .int .u32 st, .int .u32 start, .int .u32 tab, .int .u32 sm] 59)) := hb1.alloc hb1.size _
  have hbx : HBox (w1.alloc (.cells #[.int .u32 v, .int .u32 (R : Int), .int .u32 ext, .int .u32 (EN : Int), .int .u32 st, .int .u32 start, .int .u32 tab, .int .u32 sm] 59)) w1.heap.size ⟨v, R, ext, EN, st, start, tab, sm⟩ := HBox.new w1 ⟨v, R, ext, EN, st, start, tab, sm⟩
  obtain ⟨x0, x1, x2, x3, x4, x5, x6, x7⟩ := hbx.cells
  generalize w1.alloc (.cells #[.int .u32 v, .int .u32 (R : Int), .int .u32 ext, .int .u32 (EN : Int), .int .u32 st, .int .u32 start, .int .u32 tab, .int .u32 sm] 59) = w2 at *
  generalize w1.heap.size = H at *
  have HC := hidden (bclone_any a L cap zs w2.drew (HR.out.later (show Below w.heap.size w w2.drew from ⟨hb2.os, hb2.tape, hb2.output, hb2.size, hb2.block⟩)) (by omega))
  have HB2 := hidden hb2
  clear hb2 hb1 hbx
  go_region_held3 (fun w' => w'.cell? ⟨H, 0, none⟩ = some (.int .u32 v) ∧ w'.cell? ⟨H, 1, none⟩ = some (.int .u32 (R : Int)) ∧ w'.cell? ⟨H, 2, none⟩ = some (.int .u32 ext) ∧ w'.cell? ⟨H, 3, none⟩ = some (.int .u32 (EN : Int)) ∧ w'.cell? ⟨H, 4, none⟩ = some (.int .u32 st) ∧ w'.cell? ⟨H, 5, none⟩ = some (.int .u32 start) ∧ w'.cell? ⟨H, 6, none⟩ = some (.int .u32 tab) ∧ w'.cell? ⟨H, 7, none⟩ = some (.int .u32 sm)) (first | assumption | exact ⟨by assumption, by assumption, by assumption, by assumption, by assumption, by assumption, by assumption, by assumption⟩ | go_keep) (first | (go_at_call 29; refine HC.out.mono ?_; rintro e w3 ⟨a3, c3, rfl, ho3, hb3⟩; have k0 := cellLater hb3 x0; have k1 := cellLater hb3 x1; have k2 := cellLater hb3 x2; have k3 := cellLater hb3 x3; have k4 := cellLater hb3 x4; have k5 := cellLater hb3 x5; have k6 := cellLater hb3 x6; have k7 := cellLater hb3 x7; skip) | fail)
  all_goals (try go_wp2_with fail)
  obtain ⟨gb, cap3, e3, hcap3, hgb3⟩ := owned_shape ho3 h0
  cases e3
  have hb13 : Below w.heap.size w w3 := HB2.out.trans (show Below w.heap.size w2 w3 from ⟨hb3.os, hb3.tape, hb3.output, hb3.size, fun k hk => hb3.block k (by have := HB2.out.size; show k < w2.heap.size; omega)⟩)
  have ho3' := own_base (B := w.heap.size) ho3 (show w.heap.size ≤ w2.heap.size from HB2.out.size)
  have ho4 := ho3'.alloc (.cells #[.int .u32 v, .int .u32 (R : Int), .int .u32 ext, .int .u32 (EN : Int), .int .u32 st, .int .u32 start, .int .u32 tab, .int .u32 sm, .slice (some ⟨gb, 0, none⟩) L c3, .slice none 0 0, .pointer none, .int .u64 0, .int .u64 0] 68)
  have hbx : MBox (w3.alloc (.cells #[.int .u32 v, .int .u32 (R : Int), .int .u32 ext, .int .u32 (EN : Int), .int .u32 st, .int .u32 start, .int .u32 tab, .int .u32 sm, .slice (some ⟨gb, 0, none⟩) L c3, .slice none 0 0, .pointer none, .int .u64 0, .int .u64 0] 68)) w3.heap.size ⟨v, R, ext, EN, st, start, tab, sm, zs, [], ⟨0, 0, 0, []⟩, 0, 0⟩ (.slice (some ⟨gb, 0, none⟩) zs.length c3) (.slice none 0 0) (.pointer none) := by
    have := heap_alloc_new w3 (.cells #[.int .u32 v, .int .u32 (R : Int), .int .u32 ext, .int .u32 (EN : Int), .int .u32 st, .int .u32 start, .int .u32 tab, .int .u32 sm, .slice (some ⟨gb, 0, none⟩) L c3, .slice none 0 0, .pointer none, .int .u64 0, .int .u64 0] 68)
    unfold MBox
    rw [this, hzl]
    rfl
  have HRS := hidden (restart_new w.heap.size w3.heap.size gb c3 ⟨v, R, ext, EN, st, start, tab, sm, zs, [], ⟨0, 0, 0, []⟩, 0, 0⟩ (w3.alloc (.cells #[.int .u32 v, .int .u32 (R : Int), .int .u32 ext, .int .u32 (EN : Int), .int .u32 st, .int .u32 start, .int .u32 tab, .int .u32 sm, .slice (some ⟨gb, 0, none⟩) L c3, .slice none 0 0, .pointer none, .int .u64 0, .int .u64 0] 68)) hbx (by show (w3.alloc _).ownsRow w.heap.size 5 1 (.slice (some ⟨gb, 0, none⟩) zs.length c3) zs.length (bytesV zs); rw [hzl]; exact ho4) (by have := hb13.size; simp; omega) hb13.size (by show zs.length ≤ EN; omega) hen (by show 0 < EN; omega) rfl rfl)
  have HB13 := hidden hb13
  clear hbx ho4 ho3' hb13 ho3 hb3 x0 x1 x2 x3 x4 x5 x6 x7 k0 k1 k2 k3 k4 k5 k6 k7
  refine HRS.out.mono ?_
  rintro e w5 ⟨rfl, g, hh, H5, kp5⟩
  go_wp2
  refine bodyPost_ret (v := .tuple #[.pointer (some ⟨w3.heap.size, 0, none⟩), .int .i64 0, .int .i64 36]) (by simp [results, Try.results25, go_sem]) rfl ⟨w3.heap.size, gb, c3, g, hh, rfl, ?_, ?_⟩
  · have H5' := H5
    simp only [hzl] at H5'
    exact H5'
  · have hb := HB13.out
    refine ⟨kp5.os.trans hb.os, kp5.tape.trans hb.tape, kp5.output.trans hb.output, ?_, fun k hk => ?_⟩
    · have := kp5.size; have := hb.size; simp at *; omega
    · have hks := hb.size
      rw [kp5.block k (by simp; omega) (by omega), Go.heap_alloc_old _ _ (by omega)]
      exact hb.block k hk
end Go.Proofs.Ytmebjbnglndfcaa
namespace Go.Proofs.Ytmebjbnglndfcaa
open Go.RowKit
set_option maxHeartbeats 1000000
set_option maxRecDepth 100000
set_option linter.unusedVariables false

theorem num9 (n : Int) (w : World) : Calls Try.prog 13 #[.int .i64 n] w fun e w' => e = .returned (.int .i64 n) ∧ w' = w := by
  go_enter Try.func13, Try.ntmps13
  go_wp2
  go_ret
  exact ⟨rfl, rfl⟩
def hdN : Hd := ⟨196867, 256, 512, 768, 256, 36, 0, 0⟩
def smallL : List Int := makeL hdN (zer8 476)
theorem smallL_sum : sumV (hdrL hdN ++ zer8 476) = 1198488979 := by kernel_rfl
theorem smallL_ok : OkH hdN := by unfold OkH hdN; decide
theorem smallL_parse : parseH smallL = (⟨196867, 256, 512, 768, 256, 36, 0, 1198488979⟩, 0, 36) := by
  unfold smallL
  rw [make_parse hdN (zer8 476) smallL_ok (by decide) (by decide), smallL_sum]
  rfl
theorem smallL_len : smallL.length = 512 := by unfold smallL; rw [makeL_len, zer8_len]
theorem zer8_okb (k : Nat) : OkB (zer8 k) := fun c hc => by rw [List.eq_of_mem_replicate hc]; decide
theorem smallL_okb : OkB smallL := makeL_ok _ _ (zer8_okb _)
end Go.Proofs.Ytmebjbnglndfcaa
