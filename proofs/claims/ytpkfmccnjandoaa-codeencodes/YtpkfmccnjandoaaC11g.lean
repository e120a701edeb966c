/- Contracts of package code's reader: take, op. -/
import Derived.Test.YtpkfmccnjandoaaC11f
namespace Go.Proofs.Ytpkfmccnjandoaa
open Go.RowKit
set_option maxHeartbeats 1000000
set_option maxRecDepth 100000
set_option linter.unusedVariables false

/-- a reader as it lies: its bytes, and where the next one is -/
def RdBox (w : World) (R : Nat) (a : Option Addr) (n c p : Nat) : Prop := w.heap[R]? = some (.cells #[.slice a n c, .int .i64 p] 57 (0, 0))
theorem rd_box {w : World} {R : Nat} {a : Option Addr} {n c p : Nat} (h : RdBox w R a n c p) : w.cell? ⟨R, 0, none⟩ = some (.slice a n c) ∧ w.cell? ⟨R, 1, none⟩ = some (.int .i64 p) ∧ w.frozen? ⟨R, 0, none⟩ = false ∧ w.frozen? ⟨R, 1, none⟩ = false := by
  have h' : w.heap[R]? = _ := h
  simp [World.cell?, World.frozen?, h']
theorem rd_set {w : World} {R : Nat} {a : Option Addr} {n c p : Nat} (h : RdBox w R a n c p) (q : Nat) (x : Int) (hx : x = q) : RdBox (w.setCell ⟨R, 1, none⟩ (.int .i64 x)) R a n c q := by
  have h' : w.heap[R]? = _ := h
  subst hx
  show (w.setCell _ _).heap[R]? = _
  simp [World.setCell, Array.getElem?_modify, h']
theorem RdBox.drew {w : World} {R : Nat} {a : Option Addr} {n c p : Nat} (h : RdBox w R a n c p) (m : Nat) : RdBox (w.drewN m) R a n c p := h
abbrev FR (R : Nat) (w w' : World) : Prop := Fm w w' (fun k => k = R) (fun k => k = R)
theorem FR.refl (R : Nat) (w : World) : FR R w w := Fm.same (Below.refl _ _)
theorem FR.drew {R : Nat} {w w' : World} (h : FR R w w') (m : Nat) : FR R w (w'.drewN m) := h.trans (Fm.same (Dr.below ⟨m, rfl⟩))
theorem Bs.fr {R : Nat} {w w' : World} {g o n : Nat} {zs : List Int} (h : Bs w g o n zs) (hg : g ≠ R) (f : FR R w w') : Bs w' g o n zs := by
  refine ⟨h.1, fun i hi => ?_⟩
  have hc := h.2 i hi
  have hlt := World.block_lt_of_cell? _ _ hc
  have hb := f.block g hlt hg
  rw [← hc]
  simp only [World.cell?]
  rw [hb]
theorem ktake_no (R g o n c p k : Nat) (w : World) (hbx : RdBox w R (some ⟨g, o, none⟩) n c p) (hp : p ≤ n) (hk : n < p + k) (hn : n ≤ 2000000) (hk2 : k ≤ 1000) :
    Calls Try.prog 46 #[.pointer (some ⟨R, 0, none⟩), .int .i64 k] w fun e w' => e = .returned (.tuple #[.slice none 0 0, .int .i64 90]) ∧ Dr w w' := by
  obtain ⟨c0, c1, f0, f1⟩ := rd_box hbx
  have hw : IntKind.i64.wrap ((n : Int) - (p : Int)) = (n : Int) - (p : Int) := by rw [IntKind.wrap_i64]; omega
  have d : (k : Int) > (n : Int) - (p : Int) := by omega
  clear hbx
  go_enter Try.func46, Try.ntmps46
  go_wp2
  go_quiet (fail)
  all_goals (try go_wp2)
  go_ret2
  exact ⟨rfl, ⟨_, rfl⟩⟩
theorem ktake_yes (R g o n c p k : Nat) (zs : List Int) (w : World) (hbx : RdBox w R (some ⟨g, o, none⟩) n c p) (hB : Bs w g o n zs) (hgR : g ≠ R) (hc : n ≤ c) (hk : p + k ≤ n) (hn : n ≤ 2000000) (hk2 : k ≤ 1000) :
    Calls Try.prog 46 #[.pointer (some ⟨R, 0, none⟩), .int .i64 k] w fun e w' => ∃ A c', e = .returned (.tuple #[.slice (some A) k c', .int .i64 0]) ∧ Reads w' (some A) k c' (seg zs p k) ∧ RdBox w' R (some ⟨g, o, none⟩) n c (p + k) ∧ FR R w w' := by
  obtain ⟨c0, c1, f0, f1⟩ := rd_box hbx
  have hw : IntKind.i64.wrap ((n : Int) - (p : Int)) = (n : Int) - (p : Int) := by rw [IntKind.wrap_i64]; omega
  have hw2 : IntKind.i64.wrap ((p : Int) + (k : Int)) = (p : Int) + (k : Int) := by rw [IntKind.wrap_i64]; omega
  have hw3 : IntKind.i64.wrap ((p : Int) + (k : Int) - (k : Int)) = (p : Int) := by rw [IntKind.wrap_i64]; omega
  have d : ¬ (k : Int) > (n : Int) - (p : Int) := by omega
  have HX := hidden hbx
  have HB := hidden hB
  clear hbx hB
  go_enter Try.func46, Try.ntmps46
  go_wp2
  go_quiet (fail)
  all_goals (try go_wp2)
  have HX1 := hidden (rd_set (HX.out.drew nq) (p + k) ((p : Int) + (k : Int)) (by omega))
  have HF1 : Hid (FR R w ((w.drewN nq).setCell ⟨R, 1, none⟩ (.int .i64 ((p : Int) + (k : Int))))) := ((FR.refl R w).drew nq).set R 1 _ rfl
  generalize (w.drewN nq).setCell ⟨R, 1, none⟩ (.int .i64 ((p : Int) + (k : Int))) = w1 at *
  have HB1 := hidden (HB.out.fr hgR HF1.out)
  clear HX HB c0 c1 f0 f1
  obtain ⟨c0, c1, f0, f1⟩ := rd_box HX1.out
  have e1 : ((p + k : Nat) : Int) = (p : Int) + (k : Int) := by omega
  rw [e1] at c1
  have t1 : ((p : Int) + (k : Int)).toNat = p + k := by omega
  have l1 : (0 : Int) ≤ (p : Int) + (k : Int) := by omega
  have l2 : (p : Int) + (k : Int) ≤ (c : Int) := by omega
  have l3 : (p : Int) ≤ (p : Int) + (k : Int) := by omega
  obtain ⟨P, hP, HPs⟩ : ∃ P, (if c = p then some (⟨g, o, none⟩ : Addr) else some ⟨g, o + p, none⟩) = some ⟨g, P, none⟩ ∧ Hid (∀ wx, Bs wx g o n zs → Reads wx (some ⟨g, P, none⟩) k (c - p) (seg zs p k)) := by
    by_cases e : c = p
    · rw [if_pos e]
      refine ⟨o, rfl, fun wx hb => ?_⟩
      obtain rfl : k = 0 := by omega
      exact ⟨by simp [seg], by omega, .inr ⟨_, rfl, fun i hi => by omega⟩⟩
    · rw [if_neg e]
      exact ⟨o + p, rfl, fun wx hb => hb.sub p k (c - p) hk (by omega)⟩
  clear e1
  go_quiet (fail)
  all_goals (try go_wp2)
  go_ret2
  exact ⟨_, _, rfl, HPs.out _ (HB1.out.later (Dr.below ⟨_, rfl⟩)), HX1.out.drew _, HF1.out.drew _⟩
theorem beV_1 (zs : List Int) (p : Nat) : beV zs p ((1 : Nat) : Int) = zs.getD p 0 := rfl
theorem beV_2 (zs : List Int) (p : Nat) : beV zs p ((2 : Nat) : Int) = 256 * zs.getD p 0 + zs.getD (p + 1) 0 := rfl
theorem beV_4 (zs : List Int) (p : Nat) : beV zs p ((4 : Nat) : Int) = 16777216 * zs.getD p 0 + 65536 * zs.getD (p + 1) 0 + 256 * zs.getD (p + 2) 0 + zs.getD (p + 3) 0 := rfl
theorem beV_seg (zs : List Int) (p k : Nat) (hk : k = 1 ∨ k = 2 ∨ k = 4) (h : p + k ≤ zs.length) : beN (seg zs p k) = beV zs p k := by
  unfold beN
  rw [seg_len zs p k h, if_neg (by omega)]
  rcases hk with rfl | rfl | rfl
  · rw [beV_1, beV_1, seg_at zs p 1 0 (by omega) h]; rfl
  · rw [beV_2, beV_2, seg_at zs p 2 0 (by omega) h, seg_at zs p 2 (0 + 1) (by omega) h]; rfl
  · rw [beV_4, beV_4, seg_at zs p 4 0 (by omega) h, seg_at zs p 4 (0 + 1) (by omega) h, seg_at zs p 4 (0 + 2) (by omega) h, seg_at zs p 4 (0 + 3) (by omega) h]; rfl
theorem form_cases (x : Int) : (formR x).1 = 1 ∨ (formR x).1 = 2 ∨ (formR x).1 = 4 := by
  unfold formR
  split
  · exact .inl rfl
  · split
    · exact .inr (.inl rfl)
    · exact .inr (.inr rfl)
/-- the number at a place, and the place behind it -/
def numO (zs : List Int) (p : Nat) : Option (Int × Nat) :=
  if zs.length ≤ p then none else if zs.length < p + (formR (zs.getD p 0)).1 then none
  else some (beV zs p (formR (zs.getD p 0)).1 - (formR (zs.getD p 0)).2, p + (formR (zs.getD p 0)).1)
theorem num_bd (zs : List Int) (hb : OkB zs) (p : Nat) : 0 ≤ beV zs p (formR (zs.getD p 0)).1 - (formR (zs.getD p 0)).2 ∧ beV zs p (formR (zs.getD p 0)).1 - (formR (zs.getD p 0)).2 ≤ 4294967295 := by
  have h0 := okb_at hb p
  have h1 := okb_at hb (p + 1)
  have h2 := okb_at hb (p + 2)
  have h3 := okb_at hb (p + 3)
  unfold formR
  split
  · show 0 ≤ beV zs p ((1 : Nat) : Int) - 0 ∧ beV zs p ((1 : Nat) : Int) - 0 ≤ _
    rw [beV_1]; omega
  · split
    · show 0 ≤ beV zs p ((2 : Nat) : Int) - 32768 ∧ beV zs p ((2 : Nat) : Int) - 32768 ≤ _
      rw [beV_2]; omega
    · show 0 ≤ beV zs p ((4 : Nat) : Int) - 3221225472 ∧ beV zs p ((4 : Nat) : Int) - 3221225472 ≤ _
      rw [beV_4]; omega
theorem kopr_short (R : Nat) (a : Option Addr) (n c p : Nat) (w : World) (hbx : RdBox w R a n c p) (hp : n ≤ p) (hp2 : (p : Int) ≤ 9223372036854775807) (hn : n ≤ 2000000) :
    Calls Try.prog 25 #[.pointer (some ⟨R, 0, none⟩)] w fun e w' => e = .returned (.tuple #[.int .u32 0, .int .i64 90]) ∧ Dr w w' := by
  obtain ⟨c0, c1, f0, f1⟩ := rd_box hbx
  have HB := hidden fun wx => be_short a n c (p : Int) 1 wx (.inl rfl) (by omega) hp2 (by omega) (by omega)
  clear hbx
  go_enter Try.func25, Try.ntmps25
  go_wp2
  go_quiet (first | (go_at_call 44; exact Calls.quiet_of_same (HB.out _)))
  all_goals (try go_wp2)
  go_ret2
  exact ⟨rfl, ⟨_, rfl⟩⟩
theorem kopr_any (R g o n c p : Nat) (zs : List Int) (w : World) (hbx : RdBox w R (some ⟨g, o, none⟩) n c p) (hB : Bs w g o n zs) (hb : OkB zs) (hgR : g ≠ R) (hc : n ≤ c) (hp : p < n) (hn : n ≤ 2000000) :
    Calls Try.prog 25 #[.pointer (some ⟨R, 0, none⟩)] w fun e w' => match numO zs p with
      | none => e = .returned (.tuple #[.int .u32 0, .int .i64 90]) ∧ FR R w w'
      | some (op, q) => e = .returned (.tuple #[.int .u32 op, .int .i64 0]) ∧ RdBox w' R (some ⟨g, o, none⟩) n c q ∧ FR R w w' := by
  obtain ⟨c0, c1, f0, f1⟩ := rd_box hbx
  have hl : zs.length = n := hB.1
  have HBe := hidden fun m => be_any g o n c zs (p : Int) 1 (w.drewN m) (.inl rfl) (by omega) (by omega) (by omega) hc (hB.later (Dr.below ⟨m, rfl⟩)).2 hb
  rw [show ((p : Int)).toNat = p by omega, show beV zs p 1 = zs.getD p 0 from rfl] at HBe
  have hx := okb_at hb p
  have HFm := hidden fun wx => kform_any (zs.getD p 0) wx hx
  have hfc := form_cases (zs.getD p 0)
  have hbd := num_bd zs hb p
  have HX := hidden hbx
  have HB := hidden hB
  unfold numO
  rw [hl, if_neg (by omega)]
  by_cases hk : n < p + (formR (zs.getD p 0)).1
  · rw [if_pos hk]
    have HT : Hid (∀ m, Calls Try.prog 46 #[.pointer (some ⟨R, 0, none⟩), .int .i64 (formR (zs.getD p 0)).1] (w.drewN m) fun e w' => e = .returned (.tuple #[.slice none 0 0, .int .i64 90]) ∧ FR R w w') := fun m => (ktake_no R g o n c p _ (w.drewN m) (hbx.drew m) (by omega) hk hn (by omega)).mono (fun e w' hh => ⟨hh.1, ((FR.refl R w).drew m).trans (Fm.same hh.2.below)⟩)
    clear hbx hB hb hbd hx
    generalize (formR (zs.getD p 0)).1 = F at *
    generalize (formR (zs.getD p 0)).2 = M at *
    generalize zs.getD p 0 = X at *
    go_enter Try.func25, Try.ntmps25
    go_wp2
    go_quiet (first | (go_at_call 44; exact Calls.quiet_of_same (HBe.out _)))
    all_goals (try go_wp2_with (first | (go_at_call 45; refine (HFm.out _).mono ?_; rintro e w1 ⟨rfl, rfl⟩) | (go_at_call 46; refine (HT.out _).mono ?_; rintro e w2 ⟨rfl, hf⟩)))
    go_ret2
    exact ⟨rfl, hf⟩
  · rw [if_neg hk]
    have HT : Hid (∀ m, Calls Try.prog 46 #[.pointer (some ⟨R, 0, none⟩), .int .i64 (formR (zs.getD p 0)).1] (w.drewN m) fun e w' => ∃ A c', e = .returned (.tuple #[.slice (some A) (formR (zs.getD p 0)).1 c', .int .i64 0]) ∧ Reads w' (some A) (formR (zs.getD p 0)).1 c' (seg zs p (formR (zs.getD p 0)).1) ∧ RdBox w' R (some ⟨g, o, none⟩) n c (p + (formR (zs.getD p 0)).1) ∧ FR R w w') := fun m => (ktake_yes R g o n c p _ zs (w.drewN m) (hbx.drew m) (hB.later (Dr.below ⟨m, rfl⟩)) hgR hc (by omega) hn (by omega)).mono (fun e w' hh => by
      obtain ⟨A, c', h1, h2, h3, h4⟩ := hh
      exact ⟨A, c', h1, h2, h3, ((FR.refl R w).drew m).trans h4⟩)
    have HN : Hid (∀ A c' wx, Reads wx (some A) (formR (zs.getD p 0)).1 c' (seg zs p (formR (zs.getD p 0)).1) → Calls Try.prog 47 #[.slice (some A) (formR (zs.getD p 0)).1 c'] wx fun e w' => e = .returned (.int .u32 (beV zs p (formR (zs.getD p 0)).1)) ∧ w' = wx) := fun A c' wx h => by
      have := knumb_any (some A) _ c' _ wx h (seg_okb hb _ _) (by omega)
      rw [beV_seg zs p _ hfc (by omega)] at this
      exact this
    have hw : IntKind.u32.wrap (beV zs p (formR (zs.getD p 0)).1 - (formR (zs.getD p 0)).2) = beV zs p (formR (zs.getD p 0)).1 - (formR (zs.getD p 0)).2 := by rw [IntKind.wrap_u32]; omega
    clear hbx hB hb hbd hx
    generalize beV zs p (formR (zs.getD p 0)).1 = V at *
    generalize (formR (zs.getD p 0)).1 = F at *
    generalize (formR (zs.getD p 0)).2 = M at *
    generalize zs.getD p 0 = X at *
    go_enter Try.func25, Try.ntmps25
    go_wp2
    go_quiet (first | (go_at_call 44; exact Calls.quiet_of_same (HBe.out _)))
    all_goals (try go_wp2_with (first | (go_at_call 45; refine (HFm.out _).mono ?_; rintro e w1 ⟨rfl, rfl⟩) | (go_at_call 46; refine (HT.out _).mono ?_; rintro e w2 ⟨A, c', rfl, hr, hx, hf⟩; have HR2 := hidden hr; have HX2 := hidden hx; have HF2 := hidden hf; clear hr hx hf) | (go_at_call 47; refine (HN.out _ _ _ HR2.out).mono ?_; rintro e w1 ⟨rfl, rfl⟩)))
    go_ret2
    exact ⟨rfl, HX2.out, HF2.out⟩
end Go.Proofs.Ytpkfmccnjandoaa
