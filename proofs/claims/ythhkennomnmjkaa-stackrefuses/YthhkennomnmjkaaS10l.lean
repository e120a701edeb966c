/- Contracts of a stack's methods: Unstub and Enter. -/
import Derived.Test.YthhkennomnmjkaaS10k
namespace Go.Proofs.Ythhkennomnmjkaa
open Go.RowKit
set_option maxHeartbeats 1000000
set_option maxRecDepth 100000
set_option linter.unusedVariables false

theorem stub_bd (s : Ks) : stubE s = 0 ∨ stubE s = 101 ∨ stubE s = 102 ∨ stubE s = 5 := by
  unfold stubE
  split
  · split
    · simp
    · split <;> simp
  · split <;> simp
theorem stub_zero {s : Ks} (ok : OkK s) (h : stubE s = 0) : 16 ≤ s.bs.length ∧ (s.on = true → 4 ≤ cnt s ∧ nu s.bs (s.bs.length - 4) = s.fr) := by
  unfold stubE at h
  cases hon : s.on with
  | true =>
    have hb := ok.bd hon
    rw [hon, if_pos rfl] at h
    split at h
    · omega
    · split at h
      · rename_i h1 h2
        exact ⟨by omega, fun _ => ⟨by omega, h2⟩⟩
      · omega
  | false =>
    rw [hon, if_neg (by simp)] at h
    rcases (ok.non hon).2 with h1 | ⟨h1, _⟩
    · rw [if_pos h1] at h; omega
    · exact ⟨h1, fun h => by simp at h⟩
theorem kUnstub_any (B m : Nat) (v : Value) (s : Ks) (w : World) (h : KAt B w m v s) (ok : OkK s) :
    Calls Try.prog 20 #[.pointer (some ⟨m, 0, none⟩)] w fun e w' => e = .returned (.tuple #[.int .u32 (unV s 0), .int .u32 (unV s 4), .int .u32 (unV s 8), .int .i64 (stubE s)]) ∧ LeftK B w w' m v (unstubS s) := by
  obtain ⟨a, c, rfl, kc⟩ := h.kc'
  have HL := hidden (kstub_any m a c s w kc ok)
  unfold unstubS unV
  by_cases h0 : stubE s = 0
  · rw [if_pos h0, if_pos h0, if_pos h0, if_pos h0, h0]
    rw [h0] at HL
    obtain ⟨hl16, _⟩ := stub_zero ok h0
    have hsz := ok.sz
    have hmo := ok.most
    obtain ⟨g, rfl⟩ := KC.isSome h (show 0 < s.bs.length by omega)
    have hcp : s.bs.length ≤ c := kc.rd.2.1
    have e16 : 16 = 4 * 4 := rfl
    have HT : Hid (∀ w1, Dr w w1 → Calls Try.prog 52 #[.pointer (some ⟨m, 0, none⟩), .int .i64 4] w1 fun e w' => e = .returned (.slice (some ⟨g, s.bs.length - 16, none⟩) 16 (c - (s.bs.length - 16))) ∧ Dr w w') := fun w1 hd => by
      have := ktop_any m g c 4 s w1 (kc.later hd.below) ok (by omega)
      exact this.mono (fun e w' hh => by
        obtain ⟨⟨p, he, hp⟩, hd2⟩ := hh
        rw [hp (by omega)] at he
        exact ⟨he, hd.trans hd2⟩)
    have HN : Hid (∀ (w1 : World) (i : Nat), Reads w1 (some ⟨g, s.bs.length - 16, none⟩) 16 (c - (s.bs.length - 16)) (seg s.bs (s.bs.length - 16) 16) → i + 4 ≤ 16 → Calls Try.prog 54 #[.slice (some ⟨g, s.bs.length - 16, none⟩) 16 (c - (s.bs.length - 16)), .int .i64 i] w1 fun e w' => e = .returned (.int .u32 (nu s.bs (s.bs.length - 16 + i))) ∧ w' = w1) := fun w1 i hr hi => by
      have := knum_any _ 16 _ i _ w1 hr (seg_okb ok.okb _ _) hi (by omega)
      rw [nu_seg _ _ _ _ hi (by omega)] at this
      exact this
    have HRD : Hid (∀ w1, Dr w w1 → Reads w1 (some ⟨g, s.bs.length - 16, none⟩) 16 (c - (s.bs.length - 16)) (seg s.bs (s.bs.length - 16) 16)) := fun w1 hd => top_reads (kc.later hd.below) (by omega)
    have HN0 : Hid (∀ w1, Dr w w1 → Calls Try.prog 54 #[.slice (some ⟨g, s.bs.length - 16, none⟩) 16 (c - (s.bs.length - 16)), .int .i64 0] w1 fun e w' => e = .returned (.int .u32 (nu s.bs (s.bs.length - 16 + 0))) ∧ w' = w1) := fun w1 hd => HN.out w1 0 (HRD.out _ hd) (by omega)
    have HN4 : Hid (∀ w1, Dr w w1 → Calls Try.prog 54 #[.slice (some ⟨g, s.bs.length - 16, none⟩) 16 (c - (s.bs.length - 16)), .int .i64 4] w1 fun e w' => e = .returned (.int .u32 (nu s.bs (s.bs.length - 16 + 4))) ∧ w' = w1) := fun w1 hd => HN.out w1 4 (HRD.out _ hd) (by omega)
    have HN8 : Hid (∀ w1, Dr w w1 → Calls Try.prog 54 #[.slice (some ⟨g, s.bs.length - 16, none⟩) 16 (c - (s.bs.length - 16)), .int .i64 8] w1 fun e w' => e = .returned (.int .u32 (nu s.bs (s.bs.length - 16 + 8))) ∧ w' = w1) := fun w1 hd => HN.out w1 8 (HRD.out _ hd) (by omega)
    have HN12 : Hid (∀ w1, Dr w w1 → Calls Try.prog 54 #[.slice (some ⟨g, s.bs.length - 16, none⟩) 16 (c - (s.bs.length - 16)), .int .i64 12] w1 fun e w' => e = .returned (.int .u32 (nu s.bs (s.bs.length - 4))) ∧ w' = w1) := fun w1 hd => by
      have := HN.out w1 12 (HRD.out _ hd) (by omega)
      rw [show s.bs.length - 16 + 12 = s.bs.length - 4 by omega] at this
      exact this
    have hlt := nu_lt ok.okb (s.bs.length - 4)
    have HS : Hid (∀ w1, Dr w w1 → (w1.cell? ⟨m, 1, none⟩ = some (.slice (some ⟨g, 0, none⟩) s.bs.length c) ∧ w1.cell? ⟨m, 2, none⟩ = some (.int .i64 s.fr) ∧ w1.cell? ⟨m, 3, none⟩ = some (.bool s.on) ∧ (∀ j, w1.frozen? ⟨m, j, none⟩ = false)) ∧ LeftK B w (((w1.setCell ⟨m, 2, none⟩ (.int .i64 (nu s.bs (s.bs.length - 4) : Nat))).setCell ⟨m, 3, none⟩ (.bool true)).setCell ⟨m, 1, none⟩ (.slice (some ⟨g, 0, none⟩) (s.bs.length - 16) c)) m (.slice (some ⟨g, 0, none⟩) s.bs.length c) ⟨s.size, s.bs.take (s.bs.length - 16), nu s.bs (s.bs.length - 4), true⟩) := fun w1 hd => by
      have h1 := h.later hd.below
      obtain ⟨_, k1, k2, k3, kf⟩ := h1.cells
      obtain ⟨g3, g4⟩ := h1.set2 (nu s.bs (s.bs.length - 4))
      obtain ⟨g5, g6⟩ := g3.set3 true
      obtain ⟨g7, g8⟩ := KAt.cut (s := { s with fr := nu s.bs (s.bs.length - 4), on := true }) g5 (s.bs.length - 16) (by simp)
      exact ⟨⟨k1, k2, k3, kf⟩, _, g7, (((Fm.same hd.below).trans g4).trans g6).trans g8⟩
    clear h kc ok h0 HN HRD
    generalize nu s.bs (s.bs.length - 4) = F at *
    generalize nu s.bs (s.bs.length - 16 + 0) = X0 at *
    generalize nu s.bs (s.bs.length - 16 + 4) = X1 at *
    generalize nu s.bs (s.bs.length - 16 + 8) = X2 at *
    generalize hLL : s.bs.length = L at *
    have hw : IntKind.i64.wrap ((L : Int) - 16) = (L : Int) - 16 := by rw [IntKind.wrap_i64]; omega
    have hw2 : IntKind.i64.wrap (F : Int) = (F : Int) := by rw [IntKind.wrap_i64]; omega
    have ht : ((L : Int) - 16).toNat = L - 16 := by omega
    have h5 : (0 : Int) ≤ (L : Int) - 16 := by omega
    have h6 : (L : Int) - 16 ≤ (c : Int) := by omega
    have h7 : ¬ (L : Int) - 16 < 0 := by omega
    clear hLL e16 hl16
    go_enter Try.func20, Try.ntmps20
    go_wp2_with (first | (go_at_call 47; refine HL.out.mono ?_; rintro e w1 ⟨rfl, hd1⟩) | (go_at_call 52; refine (HT.out _ hd1).mono ?_; rintro e w2 ⟨rfl, hd⟩; obtain ⟨⟨k1, k2, k3, kf⟩, -⟩ := HS.out _ hd; have f1 := kf 1; have f2 := kf 2; have f3 := kf 3; have HLL := hidden (HS.out w2.drew (hd.more 1)).2; clear kf) | (go_at_call_of 54 (Value.int IntKind.i64 0); refine (HN0.out _ hd).mono ?_; rintro e w3 ⟨rfl, rfl⟩) | (go_at_call_of 54 (Value.int IntKind.i64 4); refine (HN4.out _ hd).mono ?_; rintro e w3 ⟨rfl, rfl⟩) | (go_at_call_of 54 (Value.int IntKind.i64 8); refine (HN8.out _ hd).mono ?_; rintro e w3 ⟨rfl, rfl⟩) | (go_at_call_of 54 (Value.int IntKind.i64 12); refine (HN12.out _ hd).mono ?_; rintro e w3 ⟨rfl, rfl⟩))
    go_region
    all_goals (try go_wp2)
    all_goals (refine bodyPost_ret (v := .tuple #[.int .u32 X0, .int .u32 X1, .int .u32 X2, .int .i64 0]) (by simp [results, Try.results20, go_sem]) rfl ⟨rfl, HLL.out⟩)
  · rw [if_neg h0, if_neg h0, if_neg h0, if_neg h0]
    have HK := hidden h
    generalize stubE s = E at *
    have q : ((E : Int) == 0) = false := by simpa using h0
    have q2 : ¬ (E : Int) = 0 := by omega
    clear h kc ok
    go_enter Try.func20, Try.ntmps20
    go_wp2_with (first | (go_at_call 47; refine HL.out.mono ?_; rintro e w1 ⟨rfl, hd⟩))
    refine bodyPost_ret (v := .tuple #[.int .u32 0, .int .u32 0, .int .u32 0, .int .i64 E]) (by simp [results, Try.results20, go_sem]) rfl ⟨rfl, LeftK.dr HK.out hd⟩
theorem kEnter_nil (v : Value) (w : World) : Calls Try.prog 15 #[.pointer none, v] w fun e w' => e = .returned (.int .i64 8) ∧ w' = w := by
  go_enter Try.func15, Try.ntmps15
  go_wp2
  go_ret
  exact ⟨rfl, rfl⟩
end Go.Proofs.Ythhkennomnmjkaa
