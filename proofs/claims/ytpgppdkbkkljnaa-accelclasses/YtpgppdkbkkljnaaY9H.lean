/- Contracts of become and Restart of package memory. Contract of endAt of package memory. Contracts of Read, Write, Fill and Move of package memory. Contracts of Read, Fill and Move of package memory. Contracts of Bytes, Size, Protect, Resize and Heap of package memory. -/
import Derived.Test.YtpgppdkbkkljnaaY9g
import Derived.Deep.RegionHeld3
import Derived.Test.YtpgppdkbkkljnaaY9f
namespace Go.Proofs.Ytpgppdkbkkljnaa
open Go.RowKit
set_option maxHeartbeats 1000000
set_option maxRecDepth 100000
set_option linter.unusedVariables false

theorem become_core (m g L2 c2 pf pt : Nat) (a : Option Addr) (L c : Nat) (w : World) (P : World → Prop) (c9 : w.cell? ⟨m, 9, none⟩ = some (.slice a L c)) (c11 : w.cell? ⟨m, 11, none⟩ = some (.int .u64 pf)) (c12 : w.cell? ⟨m, 12, none⟩ = some (.int .u64 pt))
    (hC : Calls Try.prog 75 #[.agg #[.int .u64 pf, .int .u64 pt], .slice a L c, .slice (some ⟨g, 0, none⟩) L2 c2] w.drew fun e w' => e = .returned (.tuple #[]) ∧ P w')
    (hP : ∀ w', P w' → w'.cell? ⟨m, 9, none⟩ = some (.slice a L c) ∧ w'.frozen? ⟨m, 9, none⟩ = false ∧ w'.cell? ⟨m, 11, none⟩ = some (.int .u64 pf) ∧ w'.cell? ⟨m, 12, none⟩ = some (.int .u64 pt)) :
    Calls Try.prog 61 #[.pointer (some ⟨m, 0, none⟩), .slice (some ⟨g, 0, none⟩) L2 c2] w fun e w' => e = .returned (.tuple #[]) ∧ ∃ w1, w' = w1.setCell ⟨m, 9, none⟩ (.slice (some ⟨g, 0, none⟩) L2 c2) ∧ P w1 := by
  have HC := hidden hC
  have HP := hidden hP
  clear hC hP
  go_enter Try.func61, Try.ntmps61
  go_wp2
  go_region_held3 (fun w' => w'.cell? ⟨m, 9, none⟩ = some (.slice a L c) ∧ w'.cell? ⟨m, 11, none⟩ = some (.int .u64 pf) ∧ w'.cell? ⟨m, 12, none⟩ = some (.int .u64 pt)) (first | assumption | exact ⟨by assumption, by assumption, by assumption⟩ | go_keep) (first | (go_at_call 75; refine HC.out.mono ?_; rintro e w1 ⟨rfl, hp1⟩; obtain ⟨k9, kf, k11, k12⟩ := HP.out _ hp1) | fail)
  all_goals (try go_wp2)
  all_goals (refine bodyPost_end (v := .tuple #[]) (by simp [results, Try.results61, go_sem]) rfl ⟨rfl, w1, rfl, hp1⟩)
/-- all blocks but one are as they were -/
structure Keep (w w' : World) (m : Nat) : Prop where
  os : w'.os = w.os
  tape : w'.tape = w.tape
  output : w'.output = w.output
  size : w.heap.size ≤ w'.heap.size
  block : ∀ k, k < w.heap.size → k ≠ m → w'.heap[k]? = w.heap[k]?
theorem Keep.later {w w1 w2 : World} {m : Nat} (h : Keep w w1 m) (hb : Below w1.heap.size w1 w2) : Keep w w2 m :=
  ⟨hb.os.trans h.os, hb.tape.trans h.tape, hb.output.trans h.output, Nat.le_trans h.size hb.size, fun k hk hn => (hb.block k (by have := h.size; omega)).trans (h.block k hk hn)⟩
theorem Keep.set {w w1 : World} {m : Nat} (h : Keep w w1 m) (i : Nat) (u : Value) : Keep w (w1.setCell ⟨m, i, none⟩ u) m :=
  ⟨h.os, h.tape, h.output, by simpa using h.size, fun k hk hn => by rw [heap_setCell_other _ _ _ _ (show k ≠ m from hn)]; exact h.block k hk hn⟩
theorem Keep.of {w w1 : World} (m : Nat) (hb : Below w.heap.size w w1) : Keep w w1 m := ⟨hb.os, hb.tape, hb.output, hb.size, fun k hk _ => hb.block k hk⟩
theorem Keep.own {B : Nat} {w w' : World} {m e size n : Nat} {v : Value} {xs : List Value} (h : Keep w w' m) (ho : w.ownsRow B e size v n xs) (hn : v.ownBlock ≠ some m) : w'.ownsRow B e size v n xs := by
  refine ⟨ho.1, ?_⟩
  rcases ho.2 with h1 | ⟨g, cap, cur, h1, h2, h3, h4⟩
  · exact .inl h1
  · exact .inr ⟨g, cap, cur, h1, h2, by rw [h.block g (Array.getElem?_eq_some_iff.1 h3).1 (fun e => hn (by rw [h1, ← e]; rfl))]; exact h3, h4⟩
theorem restart_core (B m gb gc en pf pt : Nat) (a : Option Addr) (L c : Nat) (s : Ms) (pv : Value) (w : World) (RL : List Int → List Int) (hbox : MBox w m s (.slice (some ⟨gb, 0, none⟩) s.game.length gc) (.slice a L c) pv)
    (hg : w.ownsRow B 5 1 (.slice (some ⟨gb, 0, none⟩) s.game.length gc) s.game.length (bytesV s.game)) (hB : B ≤ w.heap.size) (hBm : B ≤ m) (hl : s.game.length ≤ s.en) (hen : s.en ≤ 1048576) (hRL : (RL (s.game ++ zer8 (s.en - s.game.length))).length = s.en)
    (hC : ∀ (w3 : World) (g : Nat), Keep w w3 m → w.heap.size ≤ g → w3.ownsRow w.heap.size 5 1 (.slice (some ⟨g, 0, none⟩) s.en s.en) s.en (bytesV (s.game ++ zer8 (s.en - s.game.length))) → Calls Try.prog 75 #[.agg #[.int .u64 s.pf, .int .u64 s.pt], .slice a L c, .slice (some ⟨g, 0, none⟩) s.en s.en] w3 fun e w' => e = .returned (.tuple #[]) ∧ w'.ownsRow w.heap.size 5 1 (.slice (some ⟨g, 0, none⟩) s.en s.en) s.en (bytesV (RL (s.game ++ zer8 (s.en - s.game.length)))) ∧ Fm w3 w' (fun x => x = g) (fun x => x = g)) :
    Calls Try.prog 42 #[.pointer (some ⟨m, 0, none⟩)] w fun e w' => e = .returned (.tuple #[]) ∧ ∃ g, MAt B w' m gb gc g s.en w.heap.size (.slice none 0 0) { s with bytes := RL (s.game ++ zer8 (s.en - s.game.length)), hp := ⟨1048576, 0, 0, []⟩ } ∧ Keep w w' m ∧ w.heap.size ≤ g := by
  have hm := hbox.lt
  have HN := hidden (new_any 1048576 w)
  have HBX := hidden hbox
  have HG := hidden hg
  have HC := hidden hC
  have HRL := hidden hRL
  clear hbox hg hC hRL
  go_enter Try.func42, Try.ntmps42
  go_wp2_with fail
  go_at_call 60
  refine HN.out.mono ?_
  rintro e w1 ⟨rfl, hp1, hb1⟩
  have hbx1 := HBX.out.later hb1
  obtain ⟨a1, a3, a8, a9, a10, a11, a12, af⟩ := hbx1.cells
  have hmh : m ≠ w.heap.size := by omega
  have hp2 : HpAt w.heap.size (w1.setCell ⟨m, 10, none⟩ (.pointer (some ⟨w.heap.size, 0, none⟩))) w.heap.size (.slice none 0 0) ⟨1048576, 0, 0, []⟩ := ⟨hp1.1, by rw [heap_setCell_other _ _ _ _ (show w.heap.size ≠ m from fun e => hmh e.symm)]; exact hp1.2.1, World.ownsRow_nil _ _ _ _⟩
  have hbx2 := hbx1.set10 (.pointer (some ⟨w.heap.size, 0, none⟩)) ⟨1048576, 0, 0, []⟩
  have kp2 := (Keep.of m hb1).set 10 (.pointer (some ⟨w.heap.size, 0, none⟩))
  have HP2 := hidden hp2
  have HBX2 := hidden hbx2
  have KP2 := hidden kp2
  clear hp1 hb1 hbx1 hp2 hbx2 kp2 a1 a3 a8 a9 a11 a12 HN
  have ho2 := KP2.out.own HG.out (by simpa using HBX.out.ne8 HG.out)
  obtain ⟨b1, b3, b8, b9, b10, b11, b12, bf⟩ := HBX2.out.cells
  have HBG := hidden (begun_any B m gb s.game.length gc s.en s.game _ b8 b3 ho2 hl hen)
  clear ho2 b1 b3 b8 b9 b10 b11 b12 bf
  go_wp2_with fail
  refine HBG.out.mono ?_
  rintro e w3 ⟨rfl, ho3, hb3⟩
  have kp3 := KP2.out.later hb3
  have hbx3 := HBX2.out.later hb3
  have hp3 := HP2.out.later hb3
  have hg3 := own_later (KP2.out.own HG.out (by simpa using HBX.out.ne8 HG.out)) hb3
  generalize hG : (w1.setCell ⟨m, 10, none⟩ (.pointer (some ⟨w.heap.size, 0, none⟩))).heap.size = g at *
  have hgs : w.heap.size ≤ g := by rw [← hG]; exact KP2.out.size
  have hgh : w.heap.size < g := by rw [← hG]; exact (Array.getElem?_eq_some_iff.1 HP2.out.2.1).1
  have hgl : g < w3.heap.size := by obtain ⟨_, _, q, _⟩ := own8_cur ho3; exact (Array.getElem?_eq_some_iff.1 q).1
  obtain ⟨b1, b3, b8, b9, b10, b11, b12, bf⟩ := hbx3.cells
  have hkd : Keep w w3.drew m := ⟨kp3.os, kp3.tape, kp3.output, kp3.size, kp3.block⟩
  have hcar := HC.out w3.drew g hkd hgs (own_base ho3 hgs)
  have HBC := hidden (become_core m g s.en s.en s.pf s.pt a L c w3 (fun w' => w'.ownsRow w.heap.size 5 1 (.slice (some ⟨g, 0, none⟩) s.en s.en) s.en (bytesV (RL (s.game ++ zer8 (s.en - s.game.length)))) ∧ Fm w3.drew w' (fun x => x = g) (fun x => x = g)) b9 b11 b12 hcar (fun w' ⟨_, f⟩ => by
    have hb' : MBox w' m { s with hp := ⟨1048576, 0, 0, []⟩ } (.slice (some ⟨gb, 0, none⟩) s.game.length gc) (.slice a L c) (.pointer (some ⟨w.heap.size, 0, none⟩)) := by
      unfold MBox
      rw [f.block m hbx3.lt (fun e => by omega)]; exact hbx3
    obtain ⟨q1, q3, q8, q9, q10, q11, q12, qf⟩ := hb'.cells
    exact ⟨q9, qf 9, q11, q12⟩))
  have H3 := hidden (And.intro kp3 (And.intro hbx3 (And.intro hp3 hg3)))
  clear kp3 hbx3 hp3 hg3 hcar hkd b1 b3 b8 b9 b10 b11 b12 bf ho3 hb3
  go_wp2_with fail
  refine HBC.out.mono ?_
  rintro e w4 ⟨rfl, w5, rfl, ho5, f5⟩
  go_wp2
  refine bodyPost_end (v := .tuple #[]) (by simp [results, Try.results42, go_sem]) rfl ⟨rfl, g, ?_, ?_, hgs⟩
  · obtain ⟨kp3, hbx3, hp3, hg3⟩ := H3.out
    have hgb : gb < w.heap.size := (HG.out.lt gb rfl).2
    have f5' : Fm w3 w5 (fun x => x = g) (fun x => x = g) := ⟨f5.os, f5.tape, f5.output, f5.size, f5.block, f5.row⟩
    have hb5 : MBox w5 m { s with hp := ⟨1048576, 0, 0, []⟩ } (.slice (some ⟨gb, 0, none⟩) s.game.length gc) (.slice a L c) (.pointer (some ⟨w.heap.size, 0, none⟩)) := by
      unfold MBox
      rw [f5'.block m hbx3.lt (fun e => by omega)]; exact hbx3
    have hg5 := own8_fm f5' hg3 (fun k e e2 => by simp only [Value.ownBlock, Option.some.injEq] at e; omega)
    have hbx := hb5.set9 (.slice (some ⟨g, 0, none⟩) s.en s.en) (RL (s.game ++ zer8 (s.en - s.game.length)))
    refine ⟨hBm, ?_, ownsRow_setCell_other hg5 (by simpa using hb5.ne8 hg5) _, ?_, ⟨hB, ?_, World.ownsRow_nil _ _ _ _⟩, by show gb ≠ g; omega⟩
    · unfold MBox at hbx ⊢
      rw [hbx]
      simp only [mcells, HRL.out]
    · show (w5.setCell ⟨m, 9, none⟩ _).ownsRow B 5 1 (.slice (some ⟨g, 0, none⟩) (RL (s.game ++ zer8 (s.en - s.game.length))).length s.en) (RL (s.game ++ zer8 (s.en - s.game.length))).length (bytesV (RL (s.game ++ zer8 (s.en - s.game.length))))
      rw [HRL.out]
      exact ownsRow_setCell_other (own_base ho5 hB) (by simpa using hb5.ne8 ho5) _
    · rw [heap_setCell_other _ _ _ _ (show w.heap.size ≠ m by omega), f5'.block w.heap.size (by omega) (fun e => by omega)]
      exact hp3.2.1
  · obtain ⟨kp3, hbx3, hp3, hg3⟩ := H3.out
    refine (Keep.mk (f5.os.trans kp3.os) (f5.tape.trans kp3.tape) (f5.output.trans kp3.output) (Nat.le_trans kp3.size f5.size) (fun k hk hn => ?_)).set 9 _
    rw [f5.block k (by have := kp3.size; show k < w3.heap.size; omega) (fun e => by omega)]
    exact kp3.block k hk hn
theorem Bs.keep {w w' : World} {b o L m : Nat} {zs : List Int} (h : Bs w b o L zs) (k : Keep w w' m) (hn : b ≠ m) : Bs w' b o L zs :=
  ⟨h.1, fun i hi => by
    have := h.2 i hi
    have hlt := World.block_lt_of_cell? _ _ this
    rw [World.cell?_of_block (k.block b hlt hn)]; exact this⟩
theorem splice_len {α : Type} (xs ys : List α) (i : Nat) (h : i + ys.length ≤ xs.length) : (splice xs i ys).length = xs.length := by simp [splice]; omega
theorem carL_len (pf pt : Nat) (zs ys : List Int) : (carL pf pt zs ys).length = ys.length := by
  unfold carL
  refine splice_len _ _ _ ?_
  simp only [seg, List.length_take, List.length_drop]
  omega
/-- Restart on a memory -/
theorem restart_any (B m gb gc bb bc h : Nat) (hv : Value) (s : Ms) (w : World) (H : MAt B w m gb gc bb bc h hv s) (hB : B ≤ w.heap.size) (hl : s.game.length ≤ s.en) (hen : s.en ≤ 1048576) (hL : s.bytes.length ≤ 1048576) (hpp : s.pf ≤ s.pt) (hp : s.pt ≤ 8589934592) :
    Calls Try.prog 42 #[.pointer (some ⟨m, 0, none⟩)] w fun e w' => e = .returned (.tuple #[]) ∧ ∃ g h', MAt B w' m gb gc g s.en h' (.slice none 0 0) { s with bytes := carL s.pf s.pt s.bytes (s.game ++ zer8 (s.en - s.game.length)), hp := ⟨1048576, 0, 0, []⟩ } ∧ Fm w w' (Tch m h bb hv) (Tch m h' g (.slice none 0 0)) := by
  refine (restart_core B m gb gc s.en s.pf s.pt (some ⟨bb, 0, none⟩) s.bytes.length bc s _ w (carL s.pf s.pt s.bytes) H.box H.game hB H.base hl hen (by rw [carL_len]; simp [zer8_len]; omega) (fun w3 g k hg ho => ?_)).mono ?_
  · obtain ⟨_, _, _, hbc, _, _, _, _⟩ := own8_cur H.row
    have hbm : bb ≠ m := fun e => H.box.ne8 H.row (by rw [← e]; rfl)
    exact carry_any bb 0 s.bytes.length bc g s.en s.en s.pf s.pt s.bytes _ w.heap.size w3 ((own_bs H.row).keep k hbm) hbc ho (by omega) (by omega) hpp hp
  · rintro e w' ⟨rfl, g, H', k, hg⟩
    refine ⟨rfl, g, w.heap.size, H', ⟨k.os, k.tape, k.output, k.size, fun x hx hn => k.block x hx (fun e => hn (.inl e)), fun x hx => ?_⟩⟩
    rcases hx with e | e | e | e
    · exact .inl (.inl e)
    · exact .inr (by omega)
    · exact .inr (by omega)
    · cases e
/-- Restart on a memory that has no bytes yet -/
theorem restart_new (B m gb gc : Nat) (s : Ms) (w : World) (hbox : MBox w m s (.slice (some ⟨gb, 0, none⟩) s.game.length gc) (.slice none 0 0) (.pointer none)) (hg : w.ownsRow B 5 1 (.slice (some ⟨gb, 0, none⟩) s.game.length gc) s.game.length (bytesV s.game)) (hB : B ≤ w.heap.size) (hBm : B ≤ m) (hl : s.game.length ≤ s.en) (hen : s.en ≤ 1048576) (h0 : 0 < s.en) (hpf : s.pf = 0) (hpt : s.pt = 0) :
    Calls Try.prog 42 #[.pointer (some ⟨m, 0, none⟩)] w fun e w' => e = .returned (.tuple #[]) ∧ ∃ g h', MAt B w' m gb gc g s.en h' (.slice none 0 0) { s with bytes := s.game ++ zer8 (s.en - s.game.length), hp := ⟨1048576, 0, 0, []⟩ } ∧ Keep w w' m := by
  refine (restart_core B m gb gc s.en s.pf s.pt none 0 0 s _ w id hbox hg hB hBm hl hen (by simp [zer8_len]; omega) (fun w3 g k hg ho => ?_)).mono ?_
  · rw [hpf, hpt]
    refine (carry_nil s.en s.en g _ w.heap.size w3 ho (by omega) h0).mono ?_
    rintro e w' ⟨rfl, h1, h2⟩
    exact ⟨rfl, h1, Fm.same h2⟩
  · rintro e w' ⟨rfl, g, H', k, _⟩
    exact ⟨rfl, g, w.heap.size, H', k⟩
end Go.Proofs.Ytpgppdkbkkljnaa
namespace Go.Proofs.Ytpgppdkbkkljnaa
open Go.RowKit
set_option maxHeartbeats 1000000
set_option maxRecDepth 100000
set_option linter.unusedVariables false

end Go.Proofs.Ytpgppdkbkkljnaa
namespace Go.Proofs.Ytpgppdkbkkljnaa
open Go.RowKit
set_option maxHeartbeats 1000000
set_option maxRecDepth 100000
set_option linter.unusedVariables false

/-- behind a call: the memory in a state, and what was left alone -/
def LeftM (B : Nat) (w w' : World) (m gb gc bb h : Nat) (hv : Value) (s : Ms) : Prop := ∃ bb' bc' h' hv', MAt B w' m gb gc bb' bc' h' hv' s ∧ Fm w w' (Tch m h bb hv) (Tch m h' bb' hv')
theorem LeftM.same {B : Nat} {w w' : World} {m gb gc bb bc h : Nat} {hv : Value} {s : Ms} (H : MAt B w m gb gc bb bc h hv s) (hb : Below w.heap.size w w') : LeftM B w w' m gb gc bb h hv s := ⟨bb, bc, h, hv, H.later hb, Fm.same hb⟩
theorem write_bad (B m gb gc bb bc h : Nat) (hv : Value) (s : Ms) (a : Nat) (n x : Int) (w : World) (H : MAt B w m gb gc bb bc h hv s) (h1 : (n == 1) = false) (h2 : (n == 2) = false) (h4 : (n == 4) = false) :
    Calls Try.prog 17 #[.pointer (some ⟨m, 0, none⟩), .int .u32 a, .int .i64 n, .int .u32 x] w fun e w' => e = .returned (.int .i64 1) ∧ w' = w := by
  have HW := hidden (mwid_no n w h1 h2 h4)
  clear H
  go_enter Try.func17, Try.ntmps17
  go_wp2_with (go_at_call 28; refine HW.out.mono ?_; rintro e w1 ⟨rfl, rfl⟩)
  go_ret
  exact ⟨rfl, rfl⟩
theorem write_no (B m gb gc bb bc h : Nat) (hv : Value) (s : Ms) (a : Nat) (n : Nat) (x : Int) (w : World) (H : MAt B w m gb gc bb bc h hv s) (hn : n = 1 ∨ n = 2 ∨ n = 4) (ha : a < 4294967296) (hL : s.bytes.length < 4294967296) (hc : chgR s.ram s.bytes.length a n = false) :
    Calls Try.prog 17 #[.pointer (some ⟨m, 0, none⟩), .int .u32 a, .int .i64 n, .int .u32 x] w fun e w' => e = .returned (.int .i64 91) ∧ w' = w := by
  obtain ⟨c1, c3, c8, c9, c10, c11, c12, cf⟩ := H.box.cells
  have HW := hidden (mwid_yes (n : Int) w (by omega))
  have HC := hidden (chg_any m s.bytes.length bc s.ram a n _ w c9 c1 hL ha (by omega))
  rw [hc] at HC
  have hw : IntKind.u32.wrap (n : Int) = n := by rw [IntKind.wrap_u32]; omega
  clear H hc c1 c3 c8 c9 c10 c11 c12 cf hn
  go_enter Try.func17, Try.ntmps17
  go_wp2_with (first | (go_at_call 28; refine HW.out.mono ?_; rintro e w1 ⟨rfl, e9⟩; rw [e9]; clear e9) | (go_at_call 29; refine HC.out.mono ?_; rintro e w1 ⟨rfl, e9⟩; rw [e9]; clear e9) | fail)
  go_ret
  exact ⟨rfl, rfl⟩
theorem write_ok (B m gb gc bb bc h : Nat) (hv : Value) (s : Ms) (a : Nat) (n : Nat) (x : Int) (w : World) (H : MAt B w m gb gc bb bc h hv s) (hn : n = 1 ∨ n = 2 ∨ n = 4) (ha : a < 4294967296) (hL : s.bytes.length ≤ 1048576) (hc : chgR s.ram s.bytes.length a n = true) :
    Calls Try.prog 17 #[.pointer (some ⟨m, 0, none⟩), .int .u32 a, .int .i64 n, .int .u32 x] w fun e w' => e = .returned (.int .i64 0) ∧ LeftM B w w' m gb gc bb h hv { s with bytes := splice s.bytes a (putL x n) } := by
  obtain ⟨c1, c3, c8, c9, c10, c11, c12, cf⟩ := H.box.cells
  obtain ⟨_, _, _, hbc, _, _, _, _⟩ := own8_cur H.row
  have hac : a + n ≤ s.bytes.length := by simp [chgR, hasR] at hc; exact hc.2
  have HW := hidden (mwid_yes (n : Int) w (by omega))
  have HC := hidden (chg_any m s.bytes.length bc s.ram a n _ w c9 c1 (by omega) ha (by omega))
  rw [hc] at HC
  have hIW : IsW (n : Int) := by unfold IsW; omega
  have HPU := hidden (put_any x n w.drew hIW)
  have hpl := putL_len x n hIW
  have hpl2 : (putL x n).length = n := by omega
  rw [hpl2] at HPU
  obtain ⟨curx, x1, x2, x3, x4, x5, hsp⟩ := own_splice H.row
  have hgl : bb < w.heap.size := (Array.getElem?_eq_some_iff.1 x1).1
  have hb1 : Below w.heap.size w (w.drew.alloc (.cells (bytesV (putL x n)).toArray 5)) := ⟨rfl, rfl, rfl, by simp, fun k hk => Go.heap_alloc_old _ _ hk⟩
  have HG := hidden (show (w.drew.alloc (.cells (bytesV (putL x n)).toArray 5)).heap[bb]? = some (.cells curx.toArray 5 (0, 0)) from (hb1.block bb hgl).trans x1)
  have HSR := hidden (new_cell w.drew (putL x n) (by unfold maxLen; omega))
  have HBL := hidden (show (bytesV (putL x n)).length = n by simp [bytesV, hpl2])
  have hw : IntKind.u32.wrap (n : Int) = n := by rw [IntKind.wrap_u32]; omega
  have hs9 := cellLater hb1 c9
  have hmb : m ≠ bb := fun e => H.box.ne8 H.row (by rw [e]; rfl)
  have hml := H.box.lt
  have HK9 := hidden (fun (w1 : World) (g : (w.drew.alloc (.cells (bytesV (putL x n)).toArray 5)).grownBy w1 (some bb)) => (World.cell?_of_block (g.block m (by simp; omega) (fun e => hmb (by cases e; rfl))) (a := ⟨m, 9, none⟩)).trans hs9)
  have HX := hidden x2
  have fin : ∀ w1 : World, Hid (w1.heap[bb]? = some (.cells (splice curx a (bytesV (putL x n))).toArray 5 (0, 0))) → Hid ((w.drew.alloc (.cells (bytesV (putL x n)).toArray 5)).grownBy w1 (some bb)) → LeftM B w w1 m gb gc bb h hv { s with bytes := splice s.bytes a (putL x n) } := fun w1 h1 h2 => by
    obtain ⟨H', f'⟩ := H.inplace (zs := splice s.bytes a (putL x n)) (fm_grown hb1 h2.out) (by rw [length_splice _ _ _ (by omega)]) (hsp w1 a (putL x n) (by omega) h1.out)
    exact ⟨bb, bc, h, hv, H', f'⟩
  have FIN := hidden fin
  clear fin hsp
  generalize s.bytes.length = L at *
  generalize s.ram = R at *
  have q1 : ¬ bc = a := by omega
  have q2 : a ≤ bc := by omega
  have q3 : (a : Int) ≤ (L : Int) := by omega
  have q4 : a ≤ L := by omega
  clear hc c1 c3 c8 c10 c11 c12 cf H x1 x2 hpl hpl2 hIW hb1
  go_enter Try.func17, Try.ntmps17
  go_wp2_with (first | (go_at_call 28; refine HW.out.mono ?_; rintro e w1 ⟨rfl, e9⟩; rw [e9]; clear e9) | (go_at_call 29; refine HC.out.mono ?_; rintro e w1 ⟨rfl, e9⟩; rw [e9]; clear e9) | fail)
  go_region_held3 (fun w' => w'.cell? ⟨m, 9, none⟩ = some (.slice (some ⟨bb, 0, none⟩) L bc)) (first | assumption | go_keep) (first | (go_at_call 30; refine HPU.out.mono ?_; rintro e w9 ⟨rfl, e9⟩; rw [e9]; clear e9) | (refine step_copyk 1 rfl (.tmp 29) (.tmp 32) 50 50 rfl 5 Try.underlying50 info8s bb a (L - a) (bc - a) ⟨w.heap.size, 0, none⟩ n n (by simp [Act.eval]) (by simp [Act.eval]) curx 5 HG.out (bytesV (putL x n)) n (by show min _ _ = _; omega) (by rw [HBL.out]; omega) HSR.out (by have := HX.out; rw [HBL.out]; omega) (bytesV_one _) ?_; intro w1 HG1 HW1; have k9 := HK9.out w1 HW1.out) | fail)
  all_goals (try go_wp2)
  all_goals (go_ret)
  all_goals (exact ⟨rfl, FIN.out _ HG1 HW1⟩)
end Go.Proofs.Ytpgppdkbkkljnaa
namespace Go.Proofs.Ytpgppdkbkkljnaa
open Go.RowKit
set_option maxHeartbeats 1000000
set_option maxRecDepth 100000
set_option linter.unusedVariables false

theorem read_ok (B m gb gc bb bc h : Nat) (hv : Value) (s : Ms) (a : Nat) (n : Nat) (w : World) (H : MAt B w m gb gc bb bc h hv s) (hn : n = 1 ∨ n = 2 ∨ n = 4) (ha : a < 4294967296) (hL : s.bytes.length ≤ 1048576) (hob : OkB s.bytes) (hc : a + n ≤ s.bytes.length) :
    Calls Try.prog 18 #[.pointer (some ⟨m, 0, none⟩), .int .u32 a, .int .i64 n] w fun e w' => e = .returned (.tuple #[.int .u32 (beV s.bytes a n), .int .i64 0]) ∧ w' = w := by
  obtain ⟨c1, c3, c8, c9, c10, c11, c12, cf⟩ := H.box.cells
  obtain ⟨_, _, _, hbc, _, _, _, _⟩ := own8_cur H.row
  have HW := hidden (mwid_yes (n : Int) w (by omega))
  have HH := hidden (has_any m s.bytes.length bc a n _ w c9 (by omega) ha (by omega))
  rw [show hasR s.bytes.length a n = true by simp [hasR, hc]] at HH
  have HB := hidden (be_any bb 0 s.bytes.length bc s.bytes a n w (by unfold IsW; omega) (by omega) (by omega) (by omega) hbc (fun i hi => owned_cells H.row i hi) hob)
  have hw : IntKind.u32.wrap (n : Int) = n := by rw [IntKind.wrap_u32]; omega
  rw [Int.toNat_natCast] at HB
  generalize beV s.bytes a n = V at *
  generalize s.bytes.length = L at *
  clear H c1 c3 c8 c10 c11 c12 cf hn hob
  go_enter Try.func18, Try.ntmps18
  go_wp2_with (first | (go_at_call 28; refine HW.out.mono ?_; rintro e w1 ⟨rfl, e9⟩; rw [e9]; clear e9) | (go_at_call 31; refine HH.out.mono ?_; rintro e w1 ⟨rfl, e9⟩; rw [e9]; clear e9) | (go_at_call 32; refine HB.out.mono ?_; rintro e w1 ⟨rfl, e9⟩; rw [e9]; clear e9) | fail)
  go_ret2
  exact ⟨rfl, rfl⟩
theorem fm_setRow (w : World) (g : Nat) (cs : Array Value) : Fm w (w.setRow g cs) (fun x => x = g) (fun x => x = g) := ⟨rfl, rfl, rfl, by simp [World.setRow], fun x _ hx => setRow_other w g x _ (fun e => hx e), fun x hx => .inl hx⟩
theorem zero_8 (w : World) : (zeroValue 5).run Try.prog w = .ok (.int .u8 0) w := by kernel_rfl
end Go.Proofs.Ytpgppdkbkkljnaa
namespace Go.Proofs.Ytpgppdkbkkljnaa
open Go.RowKit
set_option maxHeartbeats 1000000
set_option maxRecDepth 100000
set_option linter.unusedVariables false

theorem size_mem (B m gb gc bb bc h : Nat) (hv : Value) (s : Ms) (w : World) (H : MAt B w m gb gc bb bc h hv s) (hL : s.bytes.length ≤ 1048576) :
    Calls Try.prog 63 #[.pointer (some ⟨m, 0, none⟩)] w fun e w' => e = .returned (.int .u32 s.bytes.length) ∧ w' = w := by
  obtain ⟨c1, c3, c8, c9, c10, c11, c12, cf⟩ := H.box.cells
  have HS := hidden (size_any m s.bytes.length bc _ w c9 (by omega))
  clear H c1 c3 c8 c10 c11 c12 cf
  generalize s.bytes.length = L at *
  go_enter Try.func63, Try.ntmps63
  go_wp2_with (go_at_call 47; refine HS.out.mono ?_; rintro e w1 ⟨rfl, e9⟩; rw [e9]; clear e9)
  go_ret
  exact ⟨rfl, rfl⟩
theorem MAt.setp {B : Nat} {w : World} {m gb gc bb bc h : Nat} {hv : Value} {s : Ms} (H : MAt B w m gb gc bb bc h hv s) (x y : Nat) : MAt B ((w.setCell ⟨m, 11, none⟩ (.int .u64 x)).setCell ⟨m, 12, none⟩ (.int .u64 y)) m gb gc bb bc h hv { s with pf := x, pt := y } := by
  refine ⟨H.base, H.box.setp x y, ownsRow_setCell_other (ownsRow_setCell_other H.game (by simpa using H.box.ne8 H.game) _) (by simpa using H.box.ne8 H.game) _, ownsRow_setCell_other (ownsRow_setCell_other H.row (by simpa using H.box.ne8 H.row) _) (by simpa using H.box.ne8 H.row) _, ⟨H.heap.1, ?_, ownsRow_setCell_other (ownsRow_setCell_other H.heap.2.2 (by simpa using H.box.neb H.heap.2.2) _) (by simpa using H.box.neb H.heap.2.2) _⟩, H.ne⟩
  have hmh : h ≠ m := fun e => H.box.neh H.heap.2.1 e.symm
  rw [heap_setCell_other _ _ _ _ (show h ≠ m from hmh), heap_setCell_other _ _ _ _ (show h ≠ m from hmh)]
  exact H.heap.2.1
end Go.Proofs.Ytpgppdkbkkljnaa
