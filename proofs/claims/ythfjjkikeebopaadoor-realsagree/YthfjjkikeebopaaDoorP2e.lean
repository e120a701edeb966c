/- Contract of package round's Open: what any pattern of any format says. -/
import Derived.Test.YthfjjkikeebopaaDoorP2b
namespace Go.Proofs.YthfjjkikeebopaaDoor
open Go.RowKit
set_option maxHeartbeats 2000000
set_option linter.unusedVariables false

theorem popen_no (m e x : Int) (w : World) (h : ¬ okF m e) :
    Calls Tryd.prog 41 #[.agg #[.int .i64 m, .int .i64 e], .int .u64 x] w fun r w' => r = .returned (.tuple #[partsV 0 false 0 0, .int .i64 1]) ∧ Below w.heap.size w w' := by
  have HC := hidden (fun w => pcheck_no m e w h)
  clear h
  go_enter Tryd.func41, Tryd.ntmps41
  go_wp2_with fail
  refine wp_region_held_drew (S := fun w' => w'.cell? ⟨w.heap.size, 0, none⟩ = some (.int .i64 m) ∧ w'.cell? ⟨w.heap.size, 1, none⟩ = some (.int .i64 e)) (by kernel_rfl) (by go_keep) (fun hHeld => ?_)
  refine wpAnyH_take (i := 0) (v := .agg #[.int .i64 m, .int .i64 e]) rfl (by kernel_rfl) (by kernel_rfl) (by kernel_rfl) (fun _ _ _ h => h) (Or.inl ⟨by rfl, ?_⟩) (by assumption) ?_
  · intro w hSw
    (try dsimp only at hSw)
    go_simp
  (try simp only [List.getElem_toArray, List.getElem_cons_zero]); (try simp only [Act.put]); (try simp only [List.setIfInBounds_toArray]); (try simp only [List.set_cons_succ]); (try simp only [List.set_cons_zero])
  refine wpAnyH_ready (rs := [1]) (by kernel_rfl) (by simp) ?_
  refine AllReadyH.cons rfl (fun K hK => ?_) AllReadyH.nil
  go_simp
  refine (HC.out _).mono ?_
  rintro r w2 ⟨rfl, hw⟩
  subst hw
  go_wp2_with fail
  refine hK.out _ _ (by go_keep) (fun hHeld => ?_)
  clear hK K
  (try simp only [List.getElem_toArray, List.getElem_cons_succ, List.getElem_cons_zero]); (try simp only [Act.put]); (try simp only [List.setIfInBounds_toArray]); (try simp only [List.set_cons_succ]); (try simp only [List.set_cons_zero])
  refine wpAnyH_take (i := 2) (v := .bool true) rfl (by kernel_rfl) (by kernel_rfl) (by kernel_rfl) (fun _ _ _ h => h) (Or.inl ⟨by rfl, ?_⟩) (by assumption) ?_
  · intro w hSw
    (try dsimp only at hSw)
    go_simp
  (try simp only [List.getElem_toArray, List.getElem_cons_succ, List.getElem_cons_zero]); (try simp only [Act.put]); (try simp only [List.setIfInBounds_toArray]); (try simp only [List.set_cons_succ]); (try simp only [List.set_cons_zero])
  refine wpAnyH_take (i := 3) (v := .bool true) rfl (by kernel_rfl) (by kernel_rfl) (by kernel_rfl) (fun _ _ _ h => h) (Or.inl ⟨by rfl, ?_⟩) (by assumption) ?_
  · intro w hSw
    (try dsimp only at hSw)
    go_simp
  (try simp only [List.getElem_toArray, List.getElem_cons_succ, List.getElem_cons_zero]); (try simp only [Act.put]); (try simp only [List.setIfInBounds_toArray]); (try simp only [List.set_cons_succ]); (try simp only [List.set_cons_zero])
  refine wpAnyH_take (i := 4) (v := undef) rfl (by kernel_rfl) (by kernel_rfl) (by kernel_rfl) (fun _ _ _ h => h) (Or.inr ⟨by rfl, rfl⟩) (by assumption) ?_
  (try simp only [List.getElem_toArray, List.getElem_cons_succ, List.getElem_cons_zero]); (try simp only [Act.put]); (try simp only [List.setIfInBounds_toArray]); (try simp only [List.set_cons_succ]); (try simp only [List.set_cons_zero])
  refine wpAnyH_take (i := 5) (v := undef) rfl (by kernel_rfl) (by kernel_rfl) (by kernel_rfl) (fun _ _ _ h => h) (Or.inr ⟨by rfl, rfl⟩) (by assumption) ?_
  (try simp only [List.getElem_toArray, List.getElem_cons_succ, List.getElem_cons_zero]); (try simp only [Act.put]); (try simp only [List.setIfInBounds_toArray]); (try simp only [List.set_cons_succ]); (try simp only [List.set_cons_zero])
  refine wpAnyH_take (i := 6) (v := undef) rfl (by kernel_rfl) (by kernel_rfl) (by kernel_rfl) (fun _ _ _ h => h) (Or.inr ⟨by rfl, rfl⟩) (by assumption) ?_
  (try simp only [List.getElem_toArray, List.getElem_cons_succ, List.getElem_cons_zero]); (try simp only [Act.put]); (try simp only [List.setIfInBounds_toArray]); (try simp only [List.set_cons_succ]); (try simp only [List.set_cons_zero])
  refine wpAnyH_take (i := 7) (v := undef) rfl (by kernel_rfl) (by kernel_rfl) (by kernel_rfl) (fun _ _ _ h => h) (Or.inr ⟨by rfl, rfl⟩) (by assumption) ?_
  (try simp only [List.getElem_toArray, List.getElem_cons_succ, List.getElem_cons_zero]); (try simp only [Act.put]); (try simp only [List.setIfInBounds_toArray]); (try simp only [List.set_cons_succ]); (try simp only [List.set_cons_zero])
  refine wpAnyH_take (i := 8) (v := undef) rfl (by kernel_rfl) (by kernel_rfl) (by kernel_rfl) (fun _ _ _ h => h) (Or.inr ⟨by rfl, rfl⟩) (by assumption) ?_
  (try simp only [List.getElem_toArray, List.getElem_cons_succ, List.getElem_cons_zero]); (try simp only [Act.put]); (try simp only [List.setIfInBounds_toArray]); (try simp only [List.set_cons_succ]); (try simp only [List.set_cons_zero])
  refine wpAnyH_take (i := 9) (v := undef) rfl (by kernel_rfl) (by kernel_rfl) (by kernel_rfl) (fun _ _ _ h => h) (Or.inr ⟨by rfl, rfl⟩) (by assumption) ?_
  (try simp only [List.getElem_toArray, List.getElem_cons_succ, List.getElem_cons_zero]); (try simp only [Act.put]); (try simp only [List.setIfInBounds_toArray]); (try simp only [List.set_cons_succ]); (try simp only [List.set_cons_zero])
  refine wpAnyH_take (i := 10) (v := undef) rfl (by kernel_rfl) (by kernel_rfl) (by kernel_rfl) (fun _ _ _ h => h) (Or.inr ⟨by rfl, rfl⟩) (by assumption) ?_
  (try simp only [List.getElem_toArray, List.getElem_cons_succ, List.getElem_cons_zero]); (try simp only [Act.put]); (try simp only [List.setIfInBounds_toArray]); (try simp only [List.set_cons_succ]); (try simp only [List.set_cons_zero])
  refine wpAnyH_take (i := 11) (v := undef) rfl (by kernel_rfl) (by kernel_rfl) (by kernel_rfl) (fun _ _ _ h => h) (Or.inr ⟨by rfl, rfl⟩) (by assumption) ?_
  (try simp only [List.getElem_toArray, List.getElem_cons_succ, List.getElem_cons_zero]); (try simp only [Act.put]); (try simp only [List.setIfInBounds_toArray]); (try simp only [List.set_cons_succ]); (try simp only [List.set_cons_zero])
  refine wpAnyH_take (i := 12) (v := undef) rfl (by kernel_rfl) (by kernel_rfl) (by kernel_rfl) (fun _ _ _ h => h) (Or.inr ⟨by rfl, rfl⟩) (by assumption) ?_
  (try simp only [List.getElem_toArray, List.getElem_cons_succ, List.getElem_cons_zero]); (try simp only [Act.put]); (try simp only [List.setIfInBounds_toArray]); (try simp only [List.set_cons_succ]); (try simp only [List.set_cons_zero])
  refine wpAnyH_take (i := 13) (v := .bool true) rfl (by kernel_rfl) (by kernel_rfl) (by kernel_rfl) (fun _ _ _ h => h) (Or.inl ⟨by rfl, ?_⟩) (by assumption) ?_
  · intro w hSw
    (try dsimp only at hSw)
    go_simp
  (try simp only [List.getElem_toArray, List.getElem_cons_succ, List.getElem_cons_zero]); (try simp only [Act.put]); (try simp only [List.setIfInBounds_toArray]); (try simp only [List.set_cons_succ]); (try simp only [List.set_cons_zero])
  refine wpAnyH_done (by kernel_rfl) ?_ _
  go_wp2
  refine bodyPost_ret (v := .tuple #[partsV 0 false 0 0, .int .i64 1]) (by simp [results, Tryd.results41, go_sem]) rfl ⟨rfl, ?_⟩
  repeat (first | exact Below.refl _ _ | apply Below.drew | (refine Below.alloc ?_ (by simp; try omega) _))
theorem popen_big (m e : Nat) (x : Int) (w : World) (h : okF m e) (x0 : 0 ≤ x) (x1 : x ≤ 18446744073709551615) (hb : 1 + (e : Int) + m < bl x) :
    Calls Tryd.prog 41 #[fmtV m e, .int .u64 x] w fun r w' => r = .returned (.tuple #[partsV 0 false 0 0, .int .i64 1]) ∧ Below w.heap.size w w' := by
  have HC := hidden (fun w => pcheck_ok m e w h)
  have HL := hidden (fun w => plen64 x w x0 x1)
  obtain ⟨h1, h2, h3, h4⟩ := h
  have k1 : IntKind.i64.wrap (1 + (e : Int)) = 1 + (e : Int) := wrapi _ (by omega) (by omega)
  have k2 : IntKind.i64.wrap (1 + (e : Int) + m) = 1 + (e : Int) + m := wrapi _ (by omega) (by omega)
  generalize bl x = L at *
  go_enter Tryd.func41, Tryd.ntmps41
  go_wp2_with fail
  go_region_held3 (fun w' => w'.cell? ⟨w.heap.size, 0, none⟩ = some (.int .i64 m) ∧ w'.cell? ⟨w.heap.size, 1, none⟩ = some (.int .i64 e)) (go_keep) (first | (go_at_call 44; refine (HC.out _).mono ?_; rintro r w2 ⟨rfl, hw⟩; subst hw) | (go_at_call 60; refine (HL.out _).mono ?_; rintro r w2 ⟨rfl, hw⟩; obtain rfl := hw.symm))
  all_goals
    go_wp2
    refine bodyPost_ret (v := .tuple #[partsV 0 false 0 0, .int .i64 1]) (by simp [results, Tryd.results41, go_sem]) rfl ⟨rfl, ?_⟩
    repeat (first | exact Below.refl _ _ | apply Below.drew | (refine Below.alloc ?_ (by simp; try omega) _))
set_option maxRecDepth 100000 in
theorem popen_any (m e : Nat) (x : Int) (w : World) (h : okF m e) (x0 : 0 ≤ x) (x1 : x ≤ 18446744073709551615) (hb : (bl x : Int) ≤ 1 + (e : Int) + m) :
    Calls Tryd.prog 41 #[fmtV m e, .int .u64 x] w fun r w' => r = .returned (.tuple #[openV m e x, .int .i64 0]) ∧ Below w.heap.size w w' := by
  have HC := hidden (fun w => pcheck_ok m e w h)
  have HL := hidden (fun w => plen64 x w x0 x1)
  have HS := hidden (fun w => psign_any m e w h)
  have HH := hidden (fun w => phidden_any m e w h)
  have HT := hidden (fun w => ptop_any m e w h)
  have HB := hidden (fun w => pbias_any m e w h)
  have HU := hidden (fun w => pleast_any m e w h)
  obtain ⟨h1, h2, h3, h4⟩ := h
  have k1 : IntKind.i64.wrap (1 + (e : Int)) = 1 + (e : Int) := wrapi _ (by omega) (by omega)
  have k2 : IntKind.i64.wrap (1 + (e : Int) + m) = 1 + (e : Int) + m := wrapi _ (by omega) (by omega)
  have hpm := p2_pos m
  have hpe := p2_pos e
  have hm63 := p2_lt64 (show m ≤ 63 by omega)
  have he11 : p2 e ≤ 2048 := by rw [← p2_11]; exact p2_mono (by omega)
  have hm52 : p2 m ≤ 4503599627370496 := by rw [← p2_52]; exact p2_mono (by omega)
  have hbb := bias_bd e h3 h4
  have ht1 := top_one m e x x0 (by omega)
  have hfl := fld_bd m e x
  have hfr := frc_bd m x
  have hw1 : Hid (IntKind.u64.wrap (p2 m - 1) = p2 m - 1) := hidden (by rw [IntKind.wrap_u64]; omega)
  have hn : Hid ((bits .and .u64 x (p2 (m + e)) != 0) = negI m e x) := hidden (by
    rw [and_bit (m + e) x x0 (by omega) (by omega)]
    unfold negI
    rw [div_div]
    have hp := p2_pos (m + e)
    rcases (show x / p2 (m + e) = 0 ∨ x / p2 (m + e) = 1 by omega) with h2 | h2
    · simp [h2]
    · simp [h2, show ¬ p2 (m + e) = 0 by omega])
  have hf : Hid (bits .and .u64 x (p2 m - 1) = frcI m x) := hidden (and_low m x x0 (by omega) (by omega))
  have hd : Hid (bits .and .u64 (x / 2 ^ m) (p2 e - 1) = fldI m e x) := hidden (by
    have q0 : 0 ≤ x / p2 m := Int.ediv_nonneg x0 (by omega)
    have q1 : x / p2 m ≤ x := Int.ediv_le_self _ x0
    exact and_low e (x / p2 m) q0 (by omega) (by omega))
  have hor : Hid (bits .or .u64 (p2 m) (frcI m x) = p2 m + frcI m x) := hidden (or_join m _ _ (by omega) (by omega) Int.emod_self hfr.1 hfr.2 (by omega))
  have hV : openV m e x = partsV (if fldI m e x = p2 e - 1 then (if frcI m x = 0 then 3 else 4) else if fldI m e x = 0 then (if frcI m x = 0 then 1 else 2) else 2) (negI m e x) (if (if fldI m e x = p2 e - 1 then (if frcI m x = 0 then (3 : Int) else 4) else if fldI m e x = 0 then (if frcI m x = 0 then 1 else 2) else 2) = 2 then (if fldI m e x = 0 then least m e else fldI m e x - bias e - m) else 0) (if (if fldI m e x = p2 e - 1 then (if frcI m x = 0 then (3 : Int) else 4) else if fldI m e x = 0 then (if frcI m x = 0 then 1 else 2) else 2) = 2 then (if fldI m e x = 0 then frcI m x else p2 m + frcI m x) else 0) := rfl
  rw [hV]
  clear hV ht1
  generalize negI m e x = ng at *
  generalize frcI m x = fr at *
  generalize fldI m e x = fl at *
  generalize least m e = l at *
  have HX := hidden (And.intro hpm (And.intro hpe (And.intro he11 (And.intro hm52 (And.intro hbb (And.intro hfl hfr))))))
  clear hpm hpe hm63 he11 hm52 hbb hfl hfr
  go_enter Tryd.func41, Tryd.ntmps41
  go_wp2_with fail
  go_region_held3 (fun w' => w'.cell? ⟨w.heap.size, 0, none⟩ = some (.int .i64 m) ∧ w'.cell? ⟨w.heap.size, 1, none⟩ = some (.int .i64 e)) (go_keep) (first | (go_at_call 44; refine (HC.out _).mono ?_; rintro r w2 ⟨rfl, hw⟩; subst hw) | (go_at_call 60; refine (HL.out _).mono ?_; rintro r w2 ⟨rfl, hw⟩; obtain rfl := hw.symm))
  all_goals
    go_wp2_with (first | (go_at_call 61; refine (HS.out _).mono ?_; rintro r w2 ⟨rfl, hw⟩; subst hw) | (go_at_call 50; refine (HH.out _).mono ?_; rintro r w2 ⟨rfl, hw⟩; subst hw) | (go_at_call 49; refine (HT.out _).mono ?_; rintro r w2 ⟨rfl, hw⟩; subst hw) | (go_at_call 56; refine (HU.out _).mono ?_; rintro r w2 ⟨rfl, hw⟩; unfold al2 at hw; subst hw))
    simp only [hw1.out, hn.out, hf.out]
    go_region_held3 (fun w' => w'.cell? ⟨w.heap.size, 0, none⟩ = some (.int .i64 m) ∧ w'.cell? ⟨w.heap.size, 1, none⟩ = some (.int .i64 e)) (first | (go_keep; done) | exact ⟨cellLater (w := w.alloc (fmt m e)) (by repeat (first | exact Below.refl _ _ | apply Below.drew | (refine Below.alloc ?_ (by simp; try omega) _))) (by simp), cellLater (w := w.alloc (fmt m e)) (by repeat (first | exact Below.refl _ _ | apply Below.drew | (refine Below.alloc ?_ (by simp; try omega) _))) (by simp)⟩) (first | (go_at_call 49; refine (HT.out _).mono ?_; rintro r w2 ⟨rfl, hw⟩; subst hw))
  all_goals
    simp only [hd.out]
    obtain ⟨hpm, hpe, he11, hm52, hbb, hfl, hfr⟩ := HX.out
    by_cases c1 : fl = p2 e - 1
    · have c1' : (fl == p2 e - 1) = true := by simp [c1]
      by_cases c2 : fr = 0
      · have c2' : (fr == 0) = true := by simp [c2]
        go_wp2_with (first | (go_at_call 61; refine (HS.out _).mono ?_; rintro r w2 ⟨rfl, hw⟩; subst hw) | (go_at_call 50; refine (HH.out _).mono ?_; rintro r w2 ⟨rfl, hw⟩; subst hw) | (go_at_call 49; refine (HT.out _).mono ?_; rintro r w2 ⟨rfl, hw⟩; subst hw) | (go_at_call 56; refine (HU.out _).mono ?_; rintro r w2 ⟨rfl, hw⟩; unfold al2 at hw; subst hw))
        refine bodyPost_ret (v := .tuple #[partsV 3 ng 0 0, .int .i64 0]) (by simp [results, Tryd.results41, go_sem]) rfl ⟨?_, ?_⟩
        · simp
        · repeat (first | exact Below.refl _ _ | apply Below.drew | (refine Below.alloc ?_ (by simp; try omega) _))
      · have c2' : (fr == 0) = false := by simp [c2]
        go_wp2_with (first | (go_at_call 61; refine (HS.out _).mono ?_; rintro r w2 ⟨rfl, hw⟩; subst hw) | (go_at_call 50; refine (HH.out _).mono ?_; rintro r w2 ⟨rfl, hw⟩; subst hw) | (go_at_call 49; refine (HT.out _).mono ?_; rintro r w2 ⟨rfl, hw⟩; subst hw) | (go_at_call 56; refine (HU.out _).mono ?_; rintro r w2 ⟨rfl, hw⟩; unfold al2 at hw; subst hw))
        refine bodyPost_ret (v := .tuple #[partsV 4 ng 0 0, .int .i64 0]) (by simp [results, Tryd.results41, go_sem]) rfl ⟨?_, ?_⟩
        · simp
        · repeat (first | exact Below.refl _ _ | apply Below.drew | (refine Below.alloc ?_ (by simp; try omega) _))
    · have c1' : (fl == p2 e - 1) = false := by simp [c1]
      by_cases c3 : fl = 0
      · have c3' : (fl == 0) = true := by simp [c3]
        by_cases c2 : fr = 0
        · have c2' : (fr == 0) = true := by simp [c2]
          go_wp2_with (first | (go_at_call 61; refine (HS.out _).mono ?_; rintro r w2 ⟨rfl, hw⟩; subst hw) | (go_at_call 50; refine (HH.out _).mono ?_; rintro r w2 ⟨rfl, hw⟩; subst hw) | (go_at_call 49; refine (HT.out _).mono ?_; rintro r w2 ⟨rfl, hw⟩; subst hw) | (go_at_call 56; refine (HU.out _).mono ?_; rintro r w2 ⟨rfl, hw⟩; unfold al2 at hw; subst hw))
          refine bodyPost_ret (v := .tuple #[partsV 1 ng 0 0, .int .i64 0]) (by simp [results, Tryd.results41, go_sem]) rfl ⟨?_, ?_⟩
          · simp
          · repeat (first | exact Below.refl _ _ | apply Below.drew | (refine Below.alloc ?_ (by simp; try omega) _))
        · have c2' : (fr == 0) = false := by simp [c2]
          go_wp2_with (first | (go_at_call 61; refine (HS.out _).mono ?_; rintro r w2 ⟨rfl, hw⟩; subst hw) | (go_at_call 50; refine (HH.out _).mono ?_; rintro r w2 ⟨rfl, hw⟩; subst hw) | (go_at_call 49; refine (HT.out _).mono ?_; rintro r w2 ⟨rfl, hw⟩; subst hw) | (go_at_call 56; refine (HU.out _).mono ?_; rintro r w2 ⟨rfl, hw⟩; unfold al2 at hw; subst hw))
          refine bodyPost_ret (v := .tuple #[partsV 2 ng l fr, .int .i64 0]) (by simp [results, Tryd.results41, go_sem]) rfl ⟨?_, ?_⟩
          · simp
          · repeat (first | exact Below.refl _ _ | apply Below.drew | (refine Below.alloc ?_ (by simp; try omega) _))
      · have c3' : (fl == 0) = false := by simp [c3]
        go_wp2_with (first | (go_at_call 61; refine (HS.out _).mono ?_; rintro r w2 ⟨rfl, hw⟩; subst hw) | (go_at_call 50; refine (HH.out _).mono ?_; rintro r w2 ⟨rfl, hw⟩; subst hw) | (go_at_call 49; refine (HT.out _).mono ?_; rintro r w2 ⟨rfl, hw⟩; subst hw) | (go_at_call 56; refine (HU.out _).mono ?_; rintro r w2 ⟨rfl, hw⟩; unfold al2 at hw; subst hw))
        have k3 : IntKind.i64.wrap fl = fl := wrapi _ (by omega) (by omega)
        have k4 : IntKind.i64.wrap (fl - bias e) = fl - bias e := wrapi _ (by omega) (by omega)
        have k5 : IntKind.i64.wrap (fl - bias e - m) = fl - bias e - m := wrapi _ (by omega) (by omega)
        go_region_held3 (fun w' => w'.cell? ⟨w.heap.size, 0, none⟩ = some (.int .i64 m) ∧ w'.cell? ⟨w.heap.size, 1, none⟩ = some (.int .i64 e)) (first | (go_keep; done) | exact ⟨cellLater (w := w.alloc (fmt m e)) (by repeat (first | exact Below.refl _ _ | apply Below.drew | (refine Below.alloc ?_ (by simp; try omega) _))) (by simp), cellLater (w := w.alloc (fmt m e)) (by repeat (first | exact Below.refl _ _ | apply Below.drew | (refine Below.alloc ?_ (by simp; try omega) _))) (by simp)⟩) (first | (go_at_call 55; refine (HB.out _).mono ?_; rintro r w2 ⟨rfl, hw⟩; subst hw))
        all_goals
          go_wp2_with (first | (go_at_call 61; refine (HS.out _).mono ?_; rintro r w2 ⟨rfl, hw⟩; subst hw) | (go_at_call 50; refine (HH.out _).mono ?_; rintro r w2 ⟨rfl, hw⟩; subst hw) | (go_at_call 49; refine (HT.out _).mono ?_; rintro r w2 ⟨rfl, hw⟩; subst hw) | (go_at_call 56; refine (HU.out _).mono ?_; rintro r w2 ⟨rfl, hw⟩; unfold al2 at hw; subst hw))
          simp only [hor.out]
          refine bodyPost_ret (v := .tuple #[partsV 2 ng (fl - bias e - m) (p2 m + fr), .int .i64 0]) (by simp [results, Tryd.results41, go_sem]) rfl ⟨?_, ?_⟩
          · simp
          · repeat (first | exact Below.refl _ _ | apply Below.drew | (refine Below.alloc ?_ (by simp; try omega) _))
end Go.Proofs.YthfjjkikeebopaaDoor
