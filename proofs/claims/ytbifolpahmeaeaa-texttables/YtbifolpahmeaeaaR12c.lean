/- Contract of package text's layBranch, over those of its two nodes. -/
import Derived.Test.YtbifolpahmeaeaaB12p
import Derived.Test.YtbifolpahmeaeaaB12f
namespace Go.Proofs.Ytbifolpahmeaeaa
open Go.RowKit Go.Maps
set_option maxHeartbeats 1000000
set_option maxRecDepth 100000
set_option linter.unusedVariables false

/-- what layNode and layBranch answer -/
def NdRet (w : World) (zs : List Int) (N : Nat) (r : Ending) (w' : World) : Prop :=
  ∃ g c, r = .returned (.tuple #[.slice (some ⟨g, 0, none⟩) zs.length c, .int .u32 (N : Nat)]) ∧ Reads w' (some ⟨g, 0, none⟩) zs.length c zs ∧ Below w.heap.size w w'
set_option maxHeartbeats 4000000 in
theorem branch_of (T LA RA NL NR : Nat) (a1 a2 : Option Addr) (n1 c1 n2 c2 : Nat) (zL zR : List Int) (w : World) (hLA : LA = (T + 9) % 4294967296) (hRA : RA = (LA + zL.length) % 4294967296) (hT : T < 4294967296) (hzl : zL.length ≤ 1000000) (hzr : zR.length ≤ 1000000) (hNL : NL ≤ 1000000) (hNR : NR ≤ 1000000)
    (h1 : ∀ w1, Below w.heap.size w w1 → Calls Try.prog 31 #[.int .u32 LA, .slice a1 n1 c1] w1 (NdRet w1 zL NL))
    (h2 : ∀ w1, Below w.heap.size w w1 → Calls Try.prog 31 #[.int .u32 RA, .slice a2 n2 c2] w1 (NdRet w1 zR NR)) :
    Calls Try.prog 18 #[.int .u32 T, .slice a1 n1 c1, .slice a2 n2 c2] w (NdRet w ([0] ++ (putL LA 4 ++ (putL RA 4 ++ (zL ++ zR)))) (1 + NL + NR)) := by
  have HN1 := hidden (h1 w (Below.refl _ _))
  have HN2 := hidden h2
  have f1 : IntKind.u32.wrap ((T : Int) + 9) = (LA : Int) := by rw [IntKind.wrap_u32]; omega
  have f2 : IntKind.u32.wrap ((zL.length : Nat) : Int) = (zL.length : Nat) := by rw [IntKind.wrap_u32]; omega
  have f3 : IntKind.u32.wrap ((LA : Int) + ((zL.length : Nat) : Int)) = (RA : Int) := by rw [IntKind.wrap_u32]; omega
  have f4 : IntKind.u32.wrap (1 + (NL : Int)) = 1 + (NL : Int) := by rw [IntKind.wrap_u32]; omega
  have f5 : IntKind.u32.wrap (1 + (NL : Int) + (NR : Int)) = ((1 + NL + NR : Nat) : Int) := by rw [IntKind.wrap_u32]; omega
  obtain ⟨NN, hNN⟩ : ∃ NN, NN = 1 + NL + NR := ⟨_, rfl⟩
  rw [← hNN] at f5 ⊢
  have hlp : ∀ x : Int, (putL x 4).length = 4 := fun x => rfl
  have HZT : Hid (([0] ++ (putL LA 4 ++ (putL RA 4 ++ (zL ++ zR)))).length = 1 + (4 + (4 + (zL.length + zR.length)))) := hidden (by simp [putL]; omega)
  clear h1 h2 hLA hRA hNN
  generalize hln : zL.length = ln at *
  generalize hrn : zR.length = rn at *
  have HLN := hidden hln
  have HRN := hidden hrn
  clear hln hrn
  have HP1 := hidden fun wx => put4 (LA : Int) (putL LA 4) rfl rfl wx
  have HP2 := hidden fun wx => put4 (RA : Int) (putL RA 4) rfl rfl wx
  obtain ⟨ZT, hZT⟩ : ∃ ZT, ZT = [0] ++ (putL LA 4 ++ (putL RA 4 ++ (zL ++ zR))) := ⟨_, rfl⟩
  rw [← hZT] at HZT ⊢
  have HZE := hidden hZT
  clear hZT
  have HND : Hid (∀ (zs : List Int) (k : Nat) (hk : zs.length = k) (N : Nat) (w1 : World) r w', NdRet w1 zs N r w' → ∃ g c, r = .returned (.tuple #[.slice (some ⟨g, 0, none⟩) k c, .int .u32 (N : Nat)]) ∧ Reads w' (some ⟨g, 0, none⟩) k c zs ∧ Below w1.heap.size w1 w') := hidden (fun zs k hk N w1 r w' hh => by rw [← hk]; exact hh)
  generalize hPQ : NdRet w ZT NN = PQ at *
  have HPQ := hidden hPQ
  clear hPQ
  go_enter Try.func18, Try.ntmps18
  go_upto_region 5 with (first | (go_at_call_of 31 (Value.int IntKind.u32 (LA : Int)); refine HN1.out.mono ?_; intro r w1 hh; obtain ⟨g1, d1, rfl, hr1, hb1⟩ := HND.out zL ln HLN.out NL _ _ _ hh; clear hh; have HR1 := hidden hr1; have HB1 := hidden hb1; clear hr1 hb1) | (go_at_call_of 31 (Value.int IntKind.u32 (RA : Int)); refine (HN2.out _ HB1.out).mono ?_; intro r w2 hh; obtain ⟨g2, d2, rfl, hr2, hb2⟩ := HND.out zR rn HRN.out NR _ _ _ hh; clear hh; have HR2 := hidden hr2; have HB2 := hidden (HB1.out.trans (hb2.mono HB1.out.size)); have HRA := hidden (HR1.out.later hb2); clear hr2 hb2))
  have HR0 : Hid (Reads (w2.alloc (.cells #[.int .u8 0] 5)) (some ⟨w2.heap.size, 0, none⟩) 1 1 [0]) := own_reads (owns_new w2 w2.heap.size [0] (Nat.le_refl _) (by decide))
  have HB3 : Hid (Below w2.heap.size w2 (w2.alloc (.cells #[.int .u8 0] 5))) := (Below.refl _ _).alloc (Nat.le_refl _) _
  have HCC : Hid (∀ w4 w5, Below (w2.alloc (.cells #[.int .u8 0] 5)).heap.size (w2.alloc (.cells #[.int .u8 0] 5)) w4 → Below w4.heap.size w4 w5 → Reads w4 (some ⟨(w2.alloc (.cells #[.int .u8 0] 5)).heap.size, 0, none⟩) 4 4 (putL LA 4) → Reads w5 (some ⟨w4.heap.size, 0, none⟩) 4 4 (putL RA 4) →
      Calls Try.prog 19 #[.slice (some ⟨w5.heap.size, 0, none⟩) 5 5] (w5.alloc (.cells #[.slice (some ⟨w2.heap.size, 0, none⟩) 1 1, .slice (some ⟨w2.heap.size + 1, 0, none⟩) 4 4, .slice (some ⟨w4.heap.size, 0, none⟩) 4 4, .slice (some ⟨g1, 0, none⟩) ln d1, .slice (some ⟨g2, 0, none⟩) rn d2] 25)) fun e w' => ∃ v, e = .returned v ∧ Hid (PQ (.returned (.tuple #[v, .int .u32 (NN : Nat)])) w')) := fun w4 w5 b4 b5 r4 r5 => by
    have hba : Below w5.heap.size w5 (w5.alloc (.cells #[.slice (some ⟨w2.heap.size, 0, none⟩) 1 1, .slice (some ⟨w2.heap.size + 1, 0, none⟩) 4 4, .slice (some ⟨w4.heap.size, 0, none⟩) 4 4, .slice (some ⟨g1, 0, none⟩) ln d1, .slice (some ⟨g2, 0, none⟩) rn d2] 25)) := (Below.refl _ _).alloc (Nat.le_refl _) _
    have hh := heap_alloc_new w5 (.cells #[.slice (some ⟨w2.heap.size, 0, none⟩) 1 1, .slice (some ⟨w2.heap.size + 1, 0, none⟩) 4 4, .slice (some ⟨w4.heap.size, 0, none⟩) 4 4, .slice (some ⟨g1, 0, none⟩) ln d1, .slice (some ⟨g2, 0, none⟩) rn d2] 25)
    have eq3 : (w2.alloc (.cells #[.int .u8 0] 5)).heap.size = w2.heap.size + 1 := by simp
    rw [eq3] at r4
    have r0' := ((HR0.out.later b4).later b5).later hba
    have r1' := ((((HRA.out.later HB3.out).later b4).later b5).later hba)
    have r2' := ((((HR2.out.later HB3.out).later b4).later b5).later hba)
    have r4' := (r4.later b5).later hba
    have r5' := r5.later hba
    have hbw : Below w.heap.size w w5 := (HB2.out.trans ((HB3.out.trans (b4.mono HB3.out.size)).mono HB2.out.size)).trans (b5.mono (Nat.le_trans HB2.out.size (Nat.le_trans HB3.out.size b4.size)))
    clear eq3
    generalize w2.heap.size + 1 = q3 at *
    generalize w5.alloc _ = w6 at *
    have hs : sumN [⟨some ⟨w2.heap.size, 0, none⟩, 1, 1, [0]⟩, ⟨some ⟨q3, 0, none⟩, 4, 4, putL LA 4⟩, ⟨some ⟨w4.heap.size, 0, none⟩, 4, 4, putL RA 4⟩, ⟨some ⟨g1, 0, none⟩, ln, d1, zL⟩, ⟨some ⟨g2, 0, none⟩, rn, d2, zR⟩] = ZT.length := by rw [HZT.out]; simp [sumN]
    have hz : catZ [⟨some ⟨w2.heap.size, 0, none⟩, 1, 1, [0]⟩, ⟨some ⟨q3, 0, none⟩, 4, 4, putL LA 4⟩, ⟨some ⟨w4.heap.size, 0, none⟩, 4, 4, putL RA 4⟩, ⟨some ⟨g1, 0, none⟩, ln, d1, zL⟩, ⟨some ⟨g2, 0, none⟩, rn, d2, zR⟩] = ZT := by rw [HZE.out]; simp [catZ]
    have := concat_any w5.heap.size 5 [⟨some ⟨w2.heap.size, 0, none⟩, 1, 1, [0]⟩, ⟨some ⟨q3, 0, none⟩, 4, 4, putL LA 4⟩, ⟨some ⟨w4.heap.size, 0, none⟩, 4, 4, putL RA 4⟩, ⟨some ⟨g1, 0, none⟩, ln, d1, zL⟩, ⟨some ⟨g2, 0, none⟩, rn, d2, zR⟩] w6 (fun i hi => by
        refine row_cells hh i _ ?_
        have hi5 : i < 5 := hi
        rcases (show i = 0 ∨ i = 1 ∨ i = 2 ∨ i = 3 ∨ i = 4 by omega) with rfl | rfl | rfl | rfl | rfl <;> rfl) (fun r hr => by
        simp only [List.mem_cons, List.not_mem_nil, or_false] at hr
        rcases hr with rfl | rfl | rfl | rfl | rfl <;> assumption) (by rw [hs, HZT.out]; omega) (by rw [hs, HZT.out]; omega) (by show 5 ≤ 10; omega) 5 rfl
    refine this.mono ?_
    rintro e w' ⟨g, c', rfl, ho, hb⟩
    rw [hs, hz] at ho
    rw [hs]
    refine ⟨_, rfl, hidden ?_⟩
    rw [← HPQ.out]
    exact ⟨g, c', rfl, own_reads ho, (hbw.trans (hba.mono hbw.size)).trans (hb.mono (Nat.le_trans hbw.size hba.size))⟩
  clear HPQ HZE HZT
  go_wp2_with (first | (go_at_call_of 20 (Value.int IntKind.u32 (LA : Int)); refine (HP1.out _).mono ?_; rintro r w4 ⟨rfl, hr4, hb4⟩; have HR4 := hidden hr4; have HB4 := hidden hb4; clear hr4 hb4) | (go_at_call_of 20 (Value.int IntKind.u32 (RA : Int)); refine (HP2.out _).mono ?_; rintro r w5 ⟨rfl, hr5, hb5⟩; have HCA := hidden (HCC.out _ _ HB4.out hb5 HR4.out hr5); clear hr5 hb5) | (go_at_call 19; refine HCA.out.mono ?_; rintro r w7 ⟨v7, rfl, HR7⟩))
  exact HR7.out
end Go.Proofs.Ytbifolpahmeaeaa
