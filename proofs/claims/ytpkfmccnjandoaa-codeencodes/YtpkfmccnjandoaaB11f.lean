/- The document's Decode: where no instruction is told. -/
import Derived.Test.YtpkfmccnjandoaaB11e
namespace Go.Proofs.Ytpkfmccnjandoaa
open Go.RowKit
set_option maxHeartbeats 1000000
set_option maxRecDepth 100000
set_option linter.unusedVariables false

/-- the world in which the two instructions without operands lie -/
abbrev d2W (w : World) : World := (w.alloc (.cells #[.int .u32 0, .slice none 0 0] 28)).alloc (.cells #[.int .u32 0, .slice none 0 0] 28)
theorem d2_facts (w : World) : IB (d2W w) w.heap.size 0 none 0 0 ∧ IB (d2W w) (w.heap.size + 1) 0 none 0 0 ∧ Below w.heap.size w (d2W w) := by
  refine ⟨(heap_alloc_old _ _ (by rw [World.size_alloc]; omega)).trans (heap_alloc_new _ _), ?_, ((Below.refl _ _).alloc (Nat.le_refl _) _).alloc (by rw [World.size_alloc]; omega) _⟩
  have := heap_alloc_new (w.alloc (.cells #[.int .u32 0, .slice none 0 0] 28)) (.cells #[.int .u32 0, .slice none 0 0] 28)
  rw [World.size_alloc] at this
  exact this
theorem dret_err {w w1 : World} (E : Int) (hb : Below w.heap.size w w1) : DRet w w1 (E, 0, [], 0) (.returned (.tuple #[.agg #[.int .u32 0, .slice none 0 0], .int .i64 0, .int .i64 E])) := ⟨none, 0, rfl, ops_nil _, hb⟩
theorem ddec_neg (v : Value) (at_ : Int) (w : World) (h : at_ < 0) :
    Calls Try.prog 12 #[v, .int .i64 at_] w fun e w' => DRet w w' (1, 0, [], 0) e := by
  obtain ⟨i0, i1, hb⟩ := d2_facts w
  obtain ⟨c0, c1, f0, f1⟩ := ib_box i0
  obtain ⟨c2, c3, f2, f3⟩ := ib_box i1
  have HB := hidden hb
  clear i0 i1 hb
  go_enter Try.func12, Try.ntmps12
  go_wp2
  exact bodyPost_ret (v := .tuple #[.agg #[.int .u32 0, .slice none 0 0], .int .i64 0, .int .i64 1]) (by simp [results, Try.results12, go_sem, c0, c1]) rfl (dret_err 1 HB.out)
/-- no byte is there -/
theorem ddec_far (a : Option Addr) (n c p : Nat) (w : World) (hn : n ≤ 1000000) (hp : n ≤ p) (hp2 : (p : Int) ≤ 9223372036854775807) :
    Calls Try.prog 12 #[.slice a n c, .int .i64 p] w fun e w' => DRet w w' (90, 0, [], 0) e := by
  obtain ⟨i0, i1, hb⟩ := d2_facts w
  obtain ⟨c0, c1, f0, f1⟩ := ib_box i0
  obtain ⟨c2, c3, f2, f3⟩ := ib_box i1
  have HB := hidden hb
  have HT := hidden fun wx => there_any a n c (p : Int) 1 wx (by omega) (by omega)
  have e : thereB n (p : Int) 1 = false := by unfold thereB; simp; omega
  rw [e] at HT
  clear i0 i1 hb e
  have h0 : ¬ (p : Int) < 0 := by omega
  go_enter Try.func12, Try.ntmps12
  go_wp2_with (first | (go_at_call 28; refine (HT.out _).mono ?_; rintro e w1 ⟨rfl, rfl⟩))
  exact bodyPost_ret (v := .tuple #[.agg #[.int .u32 0, .slice none 0 0], .int .i64 0, .int .i64 90]) (by simp [results, Try.results12, go_sem, c0, c1]) rfl (dret_err 90 HB.out)
/-- its first byte is there, the number is not -/
theorem ddec_cut (g o n c p F : Nat) (X : Int) (w : World) (hn : n ≤ 1000000) (hp : p < n) (hX : 0 ≤ X ∧ X ≤ 255) (hF : (formR X).1 = F) (hcut : n < p + F) (cx : w.cell? ⟨g, o + p, none⟩ = some (.int .u8 X)) :
    Calls Try.prog 12 #[.slice (some ⟨g, o, none⟩) n c, .int .i64 p] w fun e w' => DRet w w' (90, 0, [], 0) e := by
  obtain ⟨i0, i1, hb⟩ := d2_facts w
  obtain ⟨c0, c1, f0, f1⟩ := ib_box i0
  obtain ⟨c2, c3, f2, f3⟩ := ib_box i1
  have cx2 := cellLater hb cx
  have HB := hidden hb
  have HT := hidden fun (k : Int) wx => there_any (some ⟨g, o, none⟩) n c (p : Int) k wx (by omega) (by omega)
  have e : thereB n (p : Int) 1 = true := by unfold thereB; simp; omega
  clear i0 i1 hb cx
  have h0 : ¬ (p : Int) < 0 := by omega
  unfold formR at hF
  by_cases h1 : X < 128
  · rw [if_pos h1] at hF
    simp only at hF
    omega
  rw [if_neg h1] at hF
  by_cases h2 : X < 192
  · rw [if_pos h2] at hF
    simp only at hF
    subst hF
    have e2 : thereB n (p : Int) 2 = false := by unfold thereB; simp; omega
    go_enter Try.func12, Try.ntmps12
    go_wp2_with (first | (go_at_call 28; refine (HT.out _ _).mono ?_; rintro e w1 ⟨rfl, rfl⟩))
    exact bodyPost_ret (v := .tuple #[.agg #[.int .u32 0, .slice none 0 0], .int .i64 0, .int .i64 90]) (by simp [results, Try.results12, go_sem, c0, c1]) rfl (dret_err 90 HB.out)
  · rw [if_neg h2] at hF
    simp only at hF
    subst hF
    have e2 : thereB n (p : Int) 4 = false := by unfold thereB; simp; omega
    go_enter Try.func12, Try.ntmps12
    go_wp2_with (first | (go_at_call 28; refine (HT.out _ _).mono ?_; rintro e w1 ⟨rfl, rfl⟩))
    exact bodyPost_ret (v := .tuple #[.agg #[.int .u32 0, .slice none 0 0], .int .i64 0, .int .i64 90]) (by simp [results, Try.results12, go_sem, c0, c1]) rfl (dret_err 90 HB.out)
/-- no instruction has its number, or its modes are not there -/
theorem ddec_sig (g o n c p F : Nat) (X BV OFF : Int) (S : ByteArray) (MK : Nat) (ok : Bool) (w : World) (hn : n ≤ 1000000) (hp : p + F ≤ n) (hX : 0 ≤ X ∧ X ≤ 255) (hF : formR X = (F, OFF)) (hBV : 0 ≤ BV - OFF ∧ BV - OFF ≤ 4294967295) (cx : w.cell? ⟨g, o + p, none⟩ = some (.int .u8 X))
    (hbe : ∀ wx, Below w.heap.size w wx → Calls Try.prog 29 #[.slice (some ⟨g, o, none⟩) n c, .int .i64 p, .int .i64 F] wx fun e w' => e = .returned (.tuple #[.int .u32 BV, .int .i64 0]) ∧ w' = wx)
    (hsg : ∀ wx, Calls Try.prog 30 #[.int .u32 (BV - OFF)] wx fun e w' => e = .returned (.tuple #[.string S, .bool ok]) ∧ w' = wx)
    (hMK : (S.size + 1) / 2 = MK) (hS : S.size ≤ 8) (hcut : ok = true → n < p + F + MK) :
    Calls Try.prog 12 #[.slice (some ⟨g, o, none⟩) n c, .int .i64 p] w fun e w' => DRet w w' (if ok then 90 else 110, 0, [], 0) e := by
  obtain ⟨i0, i1, hb⟩ := d2_facts w
  obtain ⟨c0, c1, f0, f1⟩ := ib_box i0
  obtain ⟨c2, c3, f2, f3⟩ := ib_box i1
  have cx2 := cellLater hb cx
  have HBE := hidden (hbe _ hb)
  have HSG := hidden hsg
  have HB := hidden hb
  have HT := hidden fun (k : Int) wx => there_any (some ⟨g, o, none⟩) n c (p : Int) k wx (by omega) (by omega)
  have hFc : F = 1 ∨ F = 2 ∨ F = 4 := by have := form_cases X; rw [hF] at this; exact this
  have e : thereB n (p : Int) 1 = true := by unfold thereB; simp; omega
  have hpn : p < n := by omega
  clear i0 i1 hb cx hbe hsg
  have h0 : ¬ (p : Int) < 0 := by omega
  have hs1 : IntKind.i64.wrap ((S.size : Int) + 1) = (S.size : Int) + 1 := by rw [IntKind.wrap_i64]; omega
  have hs2 : ((S.size : Int) + 1).tdiv 2 = (MK : Int) := by rw [Int.tdiv_eq_ediv_of_nonneg (by omega)]; omega
  have hs3 : IntKind.i64.wrap (MK : Int) = (MK : Int) := by rw [IntKind.wrap_i64]; omega
  have hw0 : IntKind.u32.wrap (BV - OFF) = BV - OFF := by rw [IntKind.wrap_u32]; omega
  have hw1 : IntKind.i64.wrap ((F : Int) + (MK : Int)) = (F : Int) + (MK : Int) := by rw [IntKind.wrap_i64]; omega
  have e2 : thereB n (p : Int) F = true := by unfold thereB; simp; omega
  have e3 : ok = true → thereB n (p : Int) ((F : Int) + (MK : Int)) = false := fun h => by have := hcut h; unfold thereB; simp; omega
  clear hMK hcut
  unfold formR at hF
  by_cases h1 : X < 128
  · rw [if_pos h1] at hF
    cases hF
    replace hw1 : IntKind.i64.wrap (1 + (MK : Int)) = 1 + (MK : Int) := hw1
    replace e2 : thereB n (p : Int) 1 = true := e2
    replace e3 : ok = true → thereB n (p : Int) (1 + (MK : Int)) = false := e3
    rw [Int.sub_zero] at HSG hw0
    cases ok
    · clear e3
      go_enter Try.func12, Try.ntmps12
      go_wp2_with (first | (go_at_call 28; refine (HT.out _ _).mono ?_; rintro e w1 ⟨rfl, rfl⟩) | (go_at_call 29; refine HBE.out.mono ?_; rintro e w1 ⟨rfl, rfl⟩) | (go_at_call 30; refine (HSG.out _).mono ?_; rintro e w1 ⟨rfl, rfl⟩))
      exact bodyPost_ret (v := .tuple #[.agg #[.int .u32 0, .slice none 0 0], .int .i64 0, .int .i64 110]) (by simp [results, Try.results12, go_sem, c0, c1]) rfl (dret_err 110 HB.out)
    · replace e3 := e3 rfl
      go_enter Try.func12, Try.ntmps12
      go_wp2_with (first | (go_at_call 28; refine (HT.out _ _).mono ?_; rintro e w1 ⟨rfl, rfl⟩) | (go_at_call 29; refine HBE.out.mono ?_; rintro e w1 ⟨rfl, rfl⟩) | (go_at_call 30; refine (HSG.out _).mono ?_; rintro e w1 ⟨rfl, rfl⟩))
      exact bodyPost_ret (v := .tuple #[.agg #[.int .u32 0, .slice none 0 0], .int .i64 0, .int .i64 90]) (by simp [results, Try.results12, go_sem, c0, c1]) rfl (dret_err 90 HB.out)
  rw [if_neg h1] at hF
  by_cases h2 : X < 192
  · rw [if_pos h2] at hF
    cases hF
    replace hw1 : IntKind.i64.wrap (2 + (MK : Int)) = 2 + (MK : Int) := hw1
    replace e2 : thereB n (p : Int) 2 = true := e2
    replace e3 : ok = true → thereB n (p : Int) (2 + (MK : Int)) = false := e3
    cases ok
    · clear e3
      go_enter Try.func12, Try.ntmps12
      go_wp2_with (first | (go_at_call 28; refine (HT.out _ _).mono ?_; rintro e w1 ⟨rfl, rfl⟩) | (go_at_call 29; refine HBE.out.mono ?_; rintro e w1 ⟨rfl, rfl⟩) | (go_at_call 30; refine (HSG.out _).mono ?_; rintro e w1 ⟨rfl, rfl⟩))
      exact bodyPost_ret (v := .tuple #[.agg #[.int .u32 0, .slice none 0 0], .int .i64 0, .int .i64 110]) (by simp [results, Try.results12, go_sem, c0, c1]) rfl (dret_err 110 HB.out)
    · replace e3 := e3 rfl
      go_enter Try.func12, Try.ntmps12
      go_wp2_with (first | (go_at_call 28; refine (HT.out _ _).mono ?_; rintro e w1 ⟨rfl, rfl⟩) | (go_at_call 29; refine HBE.out.mono ?_; rintro e w1 ⟨rfl, rfl⟩) | (go_at_call 30; refine (HSG.out _).mono ?_; rintro e w1 ⟨rfl, rfl⟩))
      exact bodyPost_ret (v := .tuple #[.agg #[.int .u32 0, .slice none 0 0], .int .i64 0, .int .i64 90]) (by simp [results, Try.results12, go_sem, c0, c1]) rfl (dret_err 90 HB.out)
  · rw [if_neg h2] at hF
    cases hF
    replace hw1 : IntKind.i64.wrap (4 + (MK : Int)) = 4 + (MK : Int) := hw1
    replace e2 : thereB n (p : Int) 4 = true := e2
    replace e3 : ok = true → thereB n (p : Int) (4 + (MK : Int)) = false := e3
    cases ok
    · clear e3
      go_enter Try.func12, Try.ntmps12
      go_wp2_with (first | (go_at_call 28; refine (HT.out _ _).mono ?_; rintro e w1 ⟨rfl, rfl⟩) | (go_at_call 29; refine HBE.out.mono ?_; rintro e w1 ⟨rfl, rfl⟩) | (go_at_call 30; refine (HSG.out _).mono ?_; rintro e w1 ⟨rfl, rfl⟩))
      exact bodyPost_ret (v := .tuple #[.agg #[.int .u32 0, .slice none 0 0], .int .i64 0, .int .i64 110]) (by simp [results, Try.results12, go_sem, c0, c1]) rfl (dret_err 110 HB.out)
    · replace e3 := e3 rfl
      go_enter Try.func12, Try.ntmps12
      go_wp2_with (first | (go_at_call 28; refine (HT.out _ _).mono ?_; rintro e w1 ⟨rfl, rfl⟩) | (go_at_call 29; refine HBE.out.mono ?_; rintro e w1 ⟨rfl, rfl⟩) | (go_at_call 30; refine (HSG.out _).mono ?_; rintro e w1 ⟨rfl, rfl⟩))
      exact bodyPost_ret (v := .tuple #[.agg #[.int .u32 0, .slice none 0 0], .int .i64 0, .int .i64 90]) (by simp [results, Try.results12, go_sem, c0, c1]) rfl (dret_err 90 HB.out)
end Go.Proofs.Ytpkfmccnjandoaa
