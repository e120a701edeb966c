/- Layer 12, the document: the table of an alphabet. -/
import Derived.Test.YtbifolpahmeaeaaT12b
namespace Go.Proofs.Ytbifolpahmeaeaa
open Go.RowKit
set_option maxHeartbeats 1000000
set_option maxRecDepth 100000
set_option linter.unusedVariables false

theorem tbL_eq (T : Nat) (A : List Nat) (hT : T < 4294967296) : putL ((22 + szL A.length A : Nat) : Int) 4 ++ putL ((ndN A.length A + 2 : Nat) : Int) 4 ++ putL (((T + 12) % 4294967296 : Nat) : Int) 4 ++ [0] ++ putL (((T + 21) % 4294967296 : Nat) : Int) 4 ++ putL (((T + 22) % 4294967296 : Nat) : Int) 4 ++ [1] ++ ndL A.length ((T + 22) % 4294967296) A = tbL T A := by
  have e1 : tbA T = (T + 12) % 4294967296 := rfl
  have e2 : ltA T = (T + 21) % 4294967296 := by unfold ltA tbA; omega
  have e3 : rtA T = (T + 22) % 4294967296 := by unfold rtA ltA tbA; omega
  have hl : 12 + (rtL T A).length = 22 + szL A.length A := by
    have h4 : ∀ x : Int, (putL x 4).length = 4 := fun x => rfl
    unfold rtL
    simp only [List.length_append, h4, ndL_sz, List.length_cons, List.length_nil]
    omega
  unfold tbL
  rw [hl, e1]
  unfold rtL rtN
  rw [e2, e3, show 1 + 1 + ndN A.length A = ndN A.length A + 2 by omega]
  simp only [List.append_assoc]
set_option maxHeartbeats 16000000 in
theorem rtable_any (T : Nat) (a : Option Addr) (n c : Nat) (A : List Nat) (w : World) (h : VRow w a n A) (hc : n ≤ c) (hcm : c ≤ 9223372036854775807) (hn : n ≤ 1000) (hT : T < 4294967296) :
    Calls Try.prog 8 #[.int .u32 T, .slice a n c] w (TbRet w T A) := by
  have hAl := h.ln
  have HAB : Hid (∀ w1, Below w.heap.size w w1 → Calls Try.prog 21 #[.slice a n c] w1 fun e w' => e = .returned (.int .i64 (plE A : Nat)) ∧ Hid (Below w1.heap.size w1 w')) := hidden (fun w1 hb => (ralph_any a n c A w1 (h.later hb) hn).mono (fun e w' hh => ⟨hh.1, hidden hh.2.below⟩))
  by_cases hE : ¬ plE A = 0
  · have HFIN : Hid (∀ w', Below w.heap.size w w' → TbRet w T A (.returned (.tuple #[.slice none 0 0, .int .i64 (plE A : Nat)])) w') := hidden (fun w' hb => ⟨hb, .inl ⟨hE, rfl⟩⟩)
    generalize hPQ : TbRet w T A = PQ at *
    clear hPQ h
    have g3 : ¬ ((plE A : Nat) : Int) = 0 := by omega
    generalize plE A = EE at *
    go_enter Try.func8, Try.ntmps8
    go_wp2_with (first | (go_at_call 21; refine (HAB.out _ (Below.refl _ _)).mono ?_; rintro r w1 ⟨rfl, HB1⟩))
    exact HFIN.out _ HB1.out
  · replace hE : plE A = 0 := Decidable.not_not.1 hE
    rw [hE] at HAB
    have HSZ : Hid (∀ w1, Below w.heap.size w w1 → Calls Try.prog 22 #[.slice a n c] w1 fun e w' => e = .returned (.tuple #[.int .i64 (szL A.length A : Nat), .int .i64 (ndN A.length A : Nat)]) ∧ w' = w1) := hidden (fun w1 hb => rsize_any A.length a n c A w1 (by omega) hc hcm (h.later hb) hn)
    obtain ⟨b1, b2⟩ := szL_le A.length A (Nat.le_refl _) (by omega)
    have HTE := hidden (tbL_eq T A hT)
    have HLY : Hid (∀ (g cc : Nat) (zs : List Int) (w1 : World), w1.ownsRow w.heap.size 5 1 (.slice (some ⟨g, 0, none⟩) 22 cc) 22 (bytesV zs) → Below w.heap.size w w1 → Calls Try.prog 24 #[.slice (some ⟨g, 0, none⟩) 22 cc, .int .u32 T, .slice a n c] w1 (GRow w (22 + szL A.length A) (zs ++ ndL A.length ((T + 22) % 4294967296) A))) := hidden (fun g cc zs w1 ho hb => rlay_any w A.length T a n c A g 22 cc zs w1 (by omega) hc hcm (h.later hb) hn hT (by omega) ho hb h)
    have HTL : Hid ((tbL T A).length = 22 + szL A.length A) := hidden (by
      have h4 : ∀ x : Int, (putL x 4).length = 4 := fun x => rfl
      unfold tbL rtL
      simp only [List.length_append, h4, ndL_sz, List.length_cons, List.length_nil]
      omega)
    have HFIN : Hid (∀ g cc w', w'.ownsRow w.heap.size 5 1 (.slice (some ⟨g, 0, none⟩) (22 + szL A.length A) cc) (22 + szL A.length A) (bytesV (tbL T A)) → Below w.heap.size w w' → TbRet w T A (.returned (.tuple #[.slice (some ⟨g, 0, none⟩) (22 + szL A.length A) cc, .int .i64 0])) w') := hidden (fun g cc w' ho hb => by
      refine ⟨hb, .inr ⟨hE, g, cc, ?_, ?_⟩⟩
      · rw [HTL.out]
      · rw [HTL.out]; exact own_reads ho)
    rw [← HTE.out] at HFIN
    generalize hPQ : TbRet w T A = PQ at *
    generalize ndL A.length ((T + 22) % 4294967296) A = ZN at *
    generalize szL A.length A = S at *
    generalize ndN A.length A = ND at *
    obtain ⟨S22, hS⟩ : ∃ S22, 22 + S = S22 := ⟨_, rfl⟩
    obtain ⟨N2, hN2⟩ : ∃ N2, ND + 2 = N2 := ⟨_, rfl⟩
    obtain ⟨T1, hT1⟩ : ∃ T1, (T + 12) % 4294967296 = T1 := ⟨_, rfl⟩
    obtain ⟨T2, hT2⟩ : ∃ T2, (T + 21) % 4294967296 = T2 := ⟨_, rfl⟩
    obtain ⟨T3, hT3⟩ : ∃ T3, (T + 22) % 4294967296 = T3 := ⟨_, rfl⟩
    rw [hS, hN2, hT1, hT2, hT3] at HFIN
    rw [hS] at HLY
    have u0 : IntKind.i64.wrap (22 + (S : Int)) = (S22 : Int) := by rw [IntKind.wrap_i64]; omega
    have u0' : (22 + (S : Int)) = (S22 : Int) := by omega
    have u1 : IntKind.u32.wrap (S22 : Int) = (S22 : Int) := by rw [IntKind.wrap_u32]; omega
    have u2' : ((ND : Int) + 2) = (N2 : Int) := by omega
    have u2 : IntKind.u32.wrap (N2 : Int) = (N2 : Int) := by rw [IntKind.wrap_u32]; omega
    have u3 : IntKind.u32.wrap ((T : Int) + 12) = (T1 : Int) := by rw [IntKind.wrap_u32]; omega
    have u4 : IntKind.u32.wrap ((T : Int) + 21) = (T2 : Int) := by rw [IntKind.wrap_u32]; omega
    have u5 : IntKind.u32.wrap ((T : Int) + 22) = (T3 : Int) := by rw [IntKind.wrap_u32]; omega
    have HP1 := hidden fun wx => rput_4 (S22 : Int) wx (by omega) (by omega)
    have HP2 := hidden fun wx => rput_4 (N2 : Int) wx (by omega) (by omega)
    have HP3 := hidden fun wx => rput_4 (T1 : Int) wx (by omega) (by omega)
    have HP4 := hidden fun wx => rput_4 (T2 : Int) wx (by omega) (by omega)
    have HP5 := hidden fun wx => rput_4 (T3 : Int) wx (by omega) (by omega)
    clear hPQ h hE hAl hS hN2 hT1 hT2 hT3 HTE HTL
    go_enter Try.func8, Try.ntmps8
    go_upto_region 5 with (first | (go_at_call 21; refine (HAB.out _ (Below.refl _ _)).mono ?_; rintro r w1 ⟨rfl, HB1⟩) | (go_at_call 22; refine (HSZ.out _ HB1.out).mono ?_; rintro r wz ⟨rfl, ez⟩; rw [ez]; clear ez) | fail)
    go_upto_region 6 with (first
      | (go_at_call_of 23 (Value.int IntKind.u32 (S22 : Int)); refine (HP1.out _).mono ?_; rintro e w2 ⟨pv, rfl, hop, hb9⟩; obtain ⟨g2, c2, rfl, _, _⟩ := owned_shape hop (by omega); have HO2 := hidden (own_base hop HB1.out.size); have HB2 := hidden (HB1.out.trans (hb9.mono HB1.out.size)); clear hop hb9)
      | (go_at_call_of 23 (Value.int IntKind.u32 (N2 : Int)); refine (HP2.out _).mono ?_; rintro e w3 ⟨pv, rfl, hop, hb9⟩; obtain ⟨g3, c3, rfl, _, _⟩ := owned_shape hop (by omega); have HR3 := hidden (own_reads hop); have HO3 := hidden (own_later HO2.out hb9); have HB3 := hidden (HB2.out.trans (hb9.mono HB2.out.size)); clear hop hb9)
      | (at_builtin; refine wpList_appN (w0 := w) rfl (.tmp 23) (.tmp 27) rfl g2 4 c2 4 c3 (some ⟨g3, 0, none⟩) (putL (S22 : Int) 4) (putL (N2 : Int) 4) rfl rfl HO3.out HR3.out (by omega) HB3.out 8 rfl _ rfl ?_; intro g4 c4 w4 HO4 HB4)
      | fail)
    clear HO2 HB2 HR3 HO3 HB3 HB1
    go_upto_region 7 with (first
      | (go_at_call 23; refine (HP3.out _).mono ?_; rintro e w5 ⟨pv, rfl, hop, hb9⟩; obtain ⟨g5, c5, rfl, _, _⟩ := owned_shape hop (by omega); have HR5 := hidden (own_reads hop); have HO5 := hidden (own_later HO4.out hb9); have HB5 := hidden (HB4.out.trans (hb9.mono HB4.out.size)); clear hop hb9)
      | (at_builtin; refine wpList_appN (w0 := w) rfl (.tmp 29) (.tmp 32) rfl g4 8 c4 4 c5 (some ⟨g5, 0, none⟩) _ (putL (T1 : Int) 4) rfl rfl HO5.out HR5.out (by omega) HB5.out 12 rfl _ rfl ?_; intro g6 c6 w6 HO6 HB6)
      | fail)
    clear HO4 HB4 HR5 HO5 HB5
    have HO6a := hidden (HO6.out.alloc (.cells #[.int .u8 0] 5))
    have HR6 : Hid (Reads (w6.alloc (.cells #[.int .u8 0] 5)) (some ⟨w6.heap.size, 0, none⟩) 1 1 [0]) := hidden (own_reads (owns_new w6 w6.heap.size [0] (Nat.le_refl _) (by decide)))
    have HB6a := hidden (HB6.out.alloc HB6.out.size (.cells #[.int .u8 0] 5))
    go_upto_region 8 with (first | (at_builtin; refine wpList_appN (w0 := w) rfl (.tmp 34) (.tmp 35) rfl g6 12 c6 1 1 (some ⟨_, 0, none⟩) _ [0] rfl rfl HO6a.out HR6.out (by omega) HB6a.out 13 rfl _ rfl ?_; intro g7 c7 w7 HO7 HB7) | fail)
    clear HO6 HB6 HO6a HR6 HB6a
    go_upto_region 9 with (first
      | (go_at_call 23; refine (HP4.out _).mono ?_; rintro e w8 ⟨pv, rfl, hop, hb9⟩; obtain ⟨g8, c8, rfl, _, _⟩ := owned_shape hop (by omega); have HR8 := hidden (own_reads hop); have HO8 := hidden (own_later HO7.out hb9); have HB8 := hidden (HB7.out.trans (hb9.mono HB7.out.size)); clear hop hb9)
      | (at_builtin; refine wpList_appN (w0 := w) rfl (.tmp 37) (.tmp 40) rfl g7 13 c7 4 c8 (some ⟨g8, 0, none⟩) _ (putL (T2 : Int) 4) rfl rfl HO8.out HR8.out (by omega) HB8.out 17 rfl _ rfl ?_; intro g9 c9 w9 HO9 HB9)
      | fail)
    clear HO7 HB7 HR8 HO8 HB8
    go_upto_region 10 with (first
      | (go_at_call 23; refine (HP5.out _).mono ?_; rintro e w10 ⟨pv, rfl, hop, hb9⟩; obtain ⟨g10, c10, rfl, _, _⟩ := owned_shape hop (by omega); have HR10 := hidden (own_reads hop); have HO10 := hidden (own_later HO9.out hb9); have HB10 := hidden (HB9.out.trans (hb9.mono HB9.out.size)); clear hop hb9)
      | (at_builtin; refine wpList_appN (w0 := w) rfl (.tmp 42) (.tmp 45) rfl g9 17 c9 4 c10 (some ⟨g10, 0, none⟩) _ (putL (T3 : Int) 4) rfl rfl HO10.out HR10.out (by omega) HB10.out 21 rfl _ rfl ?_; intro g11 c11 w11 HO11 HB11)
      | fail)
    clear HO9 HB9 HR10 HO10 HB10
    have HO11a := hidden (HO11.out.alloc (.cells #[.int .u8 1] 5))
    have HR11 : Hid (Reads (w11.alloc (.cells #[.int .u8 1] 5)) (some ⟨w11.heap.size, 0, none⟩) 1 1 [1]) := hidden (own_reads (owns_new w11 w11.heap.size [1] (Nat.le_refl _) (by decide)))
    have HB11a := hidden (HB11.out.alloc HB11.out.size (.cells #[.int .u8 1] 5))
    go_upto_region 11 with (first | (at_builtin; refine wpList_appN (w0 := w) rfl (.tmp 47) (.tmp 48) rfl g11 21 c11 1 1 (some ⟨_, 0, none⟩) _ [1] rfl rfl HO11a.out HR11.out (by omega) HB11a.out 22 rfl _ rfl ?_; intro g12 c12 w12 HO12 HB12) | fail)
    clear HO11 HB11 HO11a HR11 HB11a
    go_wp2_with (first | (go_at_call 24; refine (HLY.out _ _ _ _ HO12.out HB12.out).mono ?_; rintro e w13 ⟨g13, c13, rfl, ho13, hb13⟩; have HF := hidden (HFIN.out _ _ _ ho13 hb13); clear ho13 hb13) | fail)
    exact HF.out
end Go.Proofs.Ytbifolpahmeaeaa
