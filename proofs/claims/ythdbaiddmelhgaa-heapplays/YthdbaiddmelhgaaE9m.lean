/- An act in both: a copy goes on. -/
import Derived.Test.YthdbaiddmelhgaaE9l
namespace Go.Proofs.Ythdbaiddmelhgaa
open Go.RowKit
set_option maxHeartbeats 1000000
set_option maxRecDepth 100000
set_option linter.unusedVariables false

theorem HalfS.copy {B h d : Nat} {w0 w : World} {s s2 : Hs} (r : HalfS B h d w0 w s s2 []) (ok : OkS s) :
    Calls Try.prog 21 #[.pointer (some ⟨h, 0, none⟩)] w fun e w' => ∃ h' v', e = .returned (.pointer (some ⟨h', 0, none⟩)) ∧ HpAt B w' h' v' s ∧ HalfS B h d w0 w' s s2 (h' :: v'.ownBlock.toList) := by
  have r' := r
  obtain ⟨t, v, u, h1, h2, h4, h5, h6, lk, hg⟩ := r
  refine (copy_any B h v s w h1 ok.len).mono ?_
  rintro e w' ⟨h', v', rfl, hh, hp', hb⟩
  refine ⟨h', v', rfl, ⟨Nat.le_trans h6 hp'.1, hp'.2.1, Joins.ownsRow_le hp'.2.2 h6⟩, ?_⟩
  have hlt := (Array.getElem?_eq_some_iff.1 hp'.2.1).1
  cases hv : v'.ownBlock with
  | none => exact r'.fresh hb h' hh hlt
  | some g =>
    have hg := hp'.2.2.lt g hv
    have r1 := r'.fresh hb g hg.1 hg.2
    have := r1.later (w' := w') (Below.refl _ _)
    obtain ⟨t1, v1, u1, a1, a2, a4, a5, a6, lk1, ag⟩ := r1
    obtain ⟨t2, v2, u2, b1, b2, b4, b5, b6, lk2, bg⟩ := r'.fresh hb h' hh hlt
    have ev : v2 = v1 := by
      have e1 := a1.2.1
      rw [b1.2.1] at e1
      simp at e1
      exact e1
    have eu : u2 = u1 := by
      have e1 := a2.2.1
      rw [b2.2.1] at e1
      simp at e1
      exact e1.2.2.2
    subst ev eu
    refine ⟨t1, v2, u2, a1, a2, a4, a5, a6, lk1, fun k hk => ?_⟩
    rcases List.mem_cons.1 hk with rfl | hk
    · exact bg _ List.mem_cons_self
    · exact ag k (by simpa using hk)
/-- the copy goes on, and the old one is left -/
theorem HalfS.switch {B h d h' : Nat} {w0 w w' : World} {s s1 s2 : Hs} {v' : Value} (hp : HpAt B w h' v' s) (hk : Kept w w' (h' :: v'.ownBlock.toList)) (r : HalfS B h d w0 w' s1 s2 (h' :: v'.ownBlock.toList)) : HalfS B h' d w0 w' s s2 [] := by
  obtain ⟨t, v, u, h1, h2, h4, h5, h6, lk, hg⟩ := r
  refine ⟨t, v', u, ⟨hp.1, by rw [hk h' List.mem_cons_self]; exact hp.2.1, ?_⟩, h2, fun k hk' e => ?_, h5, h6, lk, by simp⟩
  · refine ⟨hp.2.2.1, ?_⟩
    rcases hp.2.2.2 with hn | ⟨g, cap, cur, e1, e2, e3, e4⟩
    · exact .inl hn
    · refine .inr ⟨g, cap, cur, e1, e2, ?_, e4⟩
      rw [hk g (List.mem_cons_of_mem _ (by rw [e1]; simp [Value.ownBlock]))]
      exact e3
  · exact (hg k (List.mem_cons_of_mem _ (by rw [hk']; simp))).2.2.2.2 e
theorem does_4 (B h d : Nat) (s : Hs) (w0 w : World) (n a x : Nat) (l : Value) (r : HalfS B h d w0 w s s []) (ok : OkS s) :
    Calls Try.prog 7 #[.pointer (some ⟨h, 0, none⟩), .pointer (some ⟨d, 0, none⟩), .agg #[.int .i64 4, .int .u32 n, .int .u32 a, .int .u32 x, l]] w fun e w' => DoesR B d w0 w' s.most e := by
  have HOK := hidden ok
  have ok1 := ok_malloc 1 256 ok
  have HR : Hid (HalfS B h d w0 (w.alloc (actO 4 n a x l)) s s []) := (r.later ((Below.refl _ _).alloc (Nat.le_refl _) _)).1
  have HC := hidden fun w1 (r1 : HalfS B h d w0 w1 s s []) => HalfS.copy r1 ok
  have HM := hidden fun w1 gs (r1 : HalfS B h d w0 w1 s s gs) => HalfS.malloc (n := 1) (x := 256) r1 ok (by omega) (by omega)
  have HF := hidden fun y w1 gs (r1 : HalfS B h d w0 w1 (mallocS s 1 256) s gs) => HalfS.free y r1 ok1
  have HS := hidden fun w1 gs (r1 : HalfS B h d w0 w1 (mallocS s 1 256) s gs) => Run.start r1.run
  clear r ok ok1
  generalize mallocA s 1 256 = A at *
  generalize mallocB s 1 256 = b at *
  generalize mallocS s 1 256 = s1 at *
  go_enter Try.func7, Try.ntmps7
  go_wp2_with (first | (go_at_call 21; refine (HC.out _ HR.out).mono ?_; rintro e w1 ⟨h', v', rfl, hp1, r1⟩; have HP1 := hidden hp1; have R1 := hidden r1; clear r1 hp1) | (go_at_call 14; refine (HM.out _ _ R1.out).mono ?_; rintro e w2 ⟨rfl, r2, k2⟩; have R2 := hidden r2; have K2 := hidden k2; clear r2 k2) | (go_at_call 11; refine (HS.out _ _ R2.out).mono ?_; rintro e w9 ⟨rfl, rfl⟩) | (go_at_call 15; refine (HF.out _ _ _ R2.out).mono ?_; rintro e w3 ⟨rfl, r3, k3⟩; have R3 := hidden r3; have K3 := hidden k3; clear r3 k3))
  go_ret2
  exact ⟨h', s, rfl, HalfS.switch HP1.out (K2.out.trans K3.out) R3.out, HOK.out, rfl⟩
end Go.Proofs.Ythdbaiddmelhgaa
