/- The walk of CodeCuts: of an instruction that is cut none is told. -/
import Derived.Test.YtpkfmccnjandoaaB11b
namespace Go.Proofs.Ytpkfmccnjandoaa
open Go.RowKit
set_option maxHeartbeats 1000000
set_option maxRecDepth 100000
set_option linter.unusedVariables false

theorem dec_cuts (op : Int) (l : List Od) (c : Nat) (h : encOk op l = true) (hc : c < (encL op l).length) : decR ((encL op l).take c) 0 = (90, 0, [], 0) := by
  obtain ⟨r, hr, hl, hok⟩ := enc_parts h
  have hb := opR_bd hr
  have hlen : (encL op l).length = (opB op).length + (mdB l).length + (l.flatMap valB).length := by unfold encL; rw [List.length_append, List.length_append]
  have hE : encL op l = opB op ++ (mdB l ++ l.flatMap valB) := by unfold encL; rw [List.append_assoc]
  by_cases hs : c < (opB op).length
  · have hnum : numO ((encL op l).take c) 0 = none := by
      unfold numO
      by_cases h0 : c = 0
      · subst h0; rw [if_pos (by simp)]
      · have h1 : ¬ op < 128 := by
          intro h1
          have : (opB op).length = 1 := by unfold opB; rw [if_pos h1]; rfl
          omega
        have e : opB op = putL (op + 32768) 2 := by unfold opB; rw [if_neg h1]
        have hl2 : (opB op).length = 2 := by rw [e]; rfl
        obtain rfl : c = 1 := by omega
        have hl1 : ((encL op l).take 1).length = 1 := by rw [List.length_take]; omega
        have e0 : ((encL op l).take 1).getD 0 0 = 128 + op / 256 := by
          rw [hE, e, putL_2]
          simp only [List.cons_append, List.take_succ_cons, List.getD_cons_zero]
          omega
        have hf : formR (128 + op / 256) = (2, 32768) := by unfold formR; rw [if_neg (by omega), if_pos (by omega)]
        rw [hl1, if_neg (by omega), e0, hf, if_pos (by simp)]
    unfold decR
    rw [if_neg (by decide), show (0 : Int).toNat = 0 from rfl, hnum]
  · have ht : (encL op l).take c = opB op ++ (mdB l ++ l.flatMap valB).take (c - (opB op).length) := by rw [hE, List.take_append, List.take_of_length_le (by omega)]
    have hnum : numO ((encL op l).take c) 0 = some (op, 0 + (opB op).length) := by
      have hd' : ((encL op l).take c).drop 0 = opB op ++ (mdB l ++ l.flatMap valB).take (c - (opB op).length) := by rw [List.drop_zero, ht]
      by_cases h1 : op < 128
      · have e : opB op = putL op 1 := by unfold opB; rw [if_pos h1]
        rw [e] at hd' ⊢
        exact num_1 _ _ _ op hd' ⟨hb.1, h1⟩
      · have e : opB op = putL (op + 32768) 2 := by unfold opB; rw [if_neg h1]
        rw [e] at hd' ⊢
        exact num_2 _ _ _ op hd' (by omega)
    have hd2 : ((encL op l).take c).drop (0 + (opB op).length) = (mdB l ++ l.flatMap valB).take (c - (opB op).length) := by
      rw [ht, Nat.zero_add, List.drop_left]
    have := dec_cut _ 0 _ (c - (opB op).length) op r l hnum hr hl hok (by rw [List.length_take]; omega) hd2 (by omega)
    exact this
theorem codeCuts_walk (op : Int) (a : Option Addr) (n c : Nat) (l : List Od) (cut : Int) (w : World) (hop : (Lit.int .u32 op).wf = true) (hods : IsOds w a n c l) (hcut : (Lit.int .i64 cut).wf = true) :
    Calls Try.prog 7 #[.agg #[.int .u32 op, .slice a n c], .int .i64 cut] w fun e w' => e = .returned (.bool true) ∧ Below w.heap.size w w' := by
  have hOp := hods.1
  have HLV : Hid (∀ w1, Below w.heap.size w w1 → Calls Try.prog 9 #[] w1 fun e w' => e = .returned (.bool true) ∧ Below w.heap.size w w') := fun w1 hb => (live_any w1).mono (fun e w' hh => ⟨hh.1, hb.trans (hh.2.mono hb.size)⟩)
  have hbI : Below w.heap.size w (w.alloc (.cells #[.int .u32 op, .slice a n c] 28)) := (Below.refl _ _).alloc (Nat.le_refl _) _
  have hiI : IB (w.alloc (.cells #[.int .u32 op, .slice a n c] 28)) w.heap.size op a n c := heap_alloc_new _ _
  obtain ⟨k0, k1, _, _⟩ := ib_box hiI
  clear hods hop hcut
  by_cases hn : n ≤ 100
  · have d1 : ¬ (n : Int) > 100 := by omega
    have HEn := hidden (enc_box op a n c l w _ hOp (by omega) hbI)
    have HBI := hidden hbI
    cases hok : encOk op l
    · have HEf := hidden (HEn.out.mono (fun e w' hh => (⟨hh.2.1 hok, hbI.trans (hh.1.mono hbI.size)⟩ : _ ∧ Below w.heap.size w w')))
      clear HEn hbI hiI hOp
      go_enter Try.func7, Try.ntmps7
      go_wp2_with (first | (go_at_call 16; refine HEf.out.mono ?_; rintro e w1 ⟨rfl, hb1⟩) | (go_at_call 14; refine (num11 _ _).mono ?_; rintro e w6 ⟨rfl, rfl⟩) | (go_at_call 9; refine (HLV.out _ hb1).mono ?_; rintro e wl ⟨rfl, hbl⟩))
      go_ret
      exact ⟨rfl, hbl⟩
    · obtain ⟨hEo, hEl⟩ := ok_enc hok
      have HEt := hidden (HEn.out.mono (fun e w' hh => (⟨hh.2.2 hok, hbI.trans (hh.1.mono hbI.size)⟩ : _ ∧ Below w.heap.size w w')))
      by_cases hc0 : cut < 0
      · clear HEn hbI hiI hOp hEo
        generalize encL op l = EL at *
        go_enter Try.func7, Try.ntmps7
        go_wp2_with (first | (go_at_call 16; refine HEt.out.mono ?_; rintro e w1 ⟨⟨g2, c2, rfl, ho2⟩, hb1⟩; have HB1 := hidden hb1; clear ho2 hb1) | (go_at_call 14; refine (num11 _ _).mono ?_; rintro e w6 ⟨rfl, hw⟩; obtain rfl := hw.symm) | (go_at_call 9; refine (HLV.out _ HB1.out).mono ?_; rintro e wl ⟨rfl, hbl⟩))
        go_ret
        exact ⟨rfl, hbl⟩
      · obtain ⟨ct, rfl⟩ := Int.eq_ofNat_of_zero_le (by omega : 0 ≤ cut)
        by_cases hc1 : (encL op l).length ≤ ct
        · have d2 : (ct : Int) ≥ ((encL op l).length : Int) := by omega
          clear HEn hbI hiI hOp hEo
          generalize encL op l = EL at *
          go_enter Try.func7, Try.ntmps7
          go_wp2_with (first | (go_at_call 16; refine HEt.out.mono ?_; rintro e w1 ⟨⟨g2, c2, rfl, ho2⟩, hb1⟩; have HB1 := hidden hb1; clear ho2 hb1) | (go_at_call 14; refine (num11 _ _).mono ?_; rintro e w6 ⟨rfl, hw⟩; obtain rfl := hw.symm) | (go_at_call 9; refine (HLV.out _ HB1.out).mono ?_; rintro e wl ⟨rfl, hbl⟩))
          go_ret
          exact ⟨rfl, hbl⟩
        · have d2 : ¬ (ct : Int) ≥ ((encL op l).length : Int) := by omega
          have d0 : ¬ (ct : Int) < 0 := by omega
          have HDe : Hid (∀ B g9 c9 wx, wx.ownsRow B 5 1 (.slice (some ⟨g9, 0, none⟩) (encL op l).length c9) (encL op l).length (bytesV (encL op l)) → Calls Try.prog 11 #[.slice (some ⟨g9, 0, none⟩) ct c9, .int .i64 0] wx fun e w' => ∃ a5 c5, e = .returned (.tuple #[.agg #[.int .u32 0, .slice a5 0 c5], .int .i64 0, .int .i64 90]) ∧ Below wx.heap.size wx w') := fun B g9 c9 wx hx => by
            have := decode_any (some ⟨g9, 0, none⟩) ct c9 0 ((encL op l).take ct) wx ((own_reads hx).take ct (by omega) (by simp)) (fun x hx => hEo x (List.mem_of_mem_take hx)) (by omega) (by omega)
            rw [dec_cuts op l ct hok (by omega)] at this
            refine this.mono ?_
            rintro e w' ⟨a5, c5, h1, h2, h3⟩
            exact ⟨a5, c5, h1, h3⟩
          have HCap : Hid (∀ B g9 c9 (wx : World), wx.ownsRow B 5 1 (.slice (some ⟨g9, 0, none⟩) (encL op l).length c9) (encL op l).length (bytesV (encL op l)) → (ct : Int) ≤ (c9 : Int)) := fun B g9 c9 wx hx => by
            have := (own_reads hx).2.1
            show _ ≤ _
            omega
          clear HEn hbI hiI hOp hEo
          generalize encL op l = EL at *
          go_enter Try.func7, Try.ntmps7
          go_wp2_with (first
            | (go_at_call 16; refine HEt.out.mono ?_; rintro e w1 ⟨⟨g2, c2, rfl, ho2⟩, hb1⟩; have HB1 := hidden hb1; have HO2 := hidden ho2; have hcap := HCap.out _ _ _ _ ho2; clear ho2 hb1)
            | (go_at_call 14; refine (num11 _ _).mono ?_; rintro e w6 ⟨rfl, hw⟩; obtain rfl := hw.symm)
            | (go_at_call 11; refine (HDe.out _ _ _ _ HO2.out).mono ?_; rintro e w7 ⟨a7, c7, rfl, hb7⟩; have hb8 : Below w1.heap.size w1 (w7.alloc (.cells #[.int .u32 0, .slice a7 0 c7] 28)) := hb7.alloc hb7.size _; have HB8 := hidden (HB1.out.trans (hb8.mono HB1.out.size)); have HSm := hidden (same_od 0 a7 none 0 c7 0 [] (w7.alloc (.cells #[.int .u32 0, .slice a7 0 c7] 28)) ⟨rfl, Nat.zero_le _, fun h => by omega⟩ (ops_nil _) (by omega)); clear hb7 hb8)
            | (go_at_call 13; refine HSm.out.mono ?_; rintro e w9 ⟨rfl, hb9⟩; have HB9 := hidden (HB8.out.trans (hb9.mono HB8.out.size)); clear hb9)
            | (go_at_call 9; refine (HLV.out _ HB9.out).mono ?_; rintro e wl ⟨rfl, hbl⟩))
          go_ret
          exact ⟨rfl, hbl⟩
  · have d1 : (n : Int) > 100 := by omega
    clear hiI hOp
    go_enter Try.func7, Try.ntmps7
    go_wp2_with (first | (go_at_call 9; refine (HLV.out _ hbI).mono ?_; rintro e wl ⟨rfl, hbl⟩))
    go_ret
    exact ⟨rfl, hbl⟩
end Go.Proofs.Ytpkfmccnjandoaa
