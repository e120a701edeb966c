/- Contract of package text's Table for any alphabet. -/
import Derived.Test.YtbifolpahmeaeaaR12d
import Derived.Test.YtbifolpahmeaeaaB12q
namespace Go.Proofs.Ytbifolpahmeaeaa
open Go.RowKit Go.Maps
set_option maxHeartbeats 1000000
set_option maxRecDepth 100000
set_option linter.unusedVariables false

def tbA (T : Nat) : Nat := (T + 12) % 4294967296
def ltA (T : Nat) : Nat := (tbA T + 9) % 4294967296
def rtA (T : Nat) : Nat := (ltA T + 1) % 4294967296
/-- the root and what lies behind it -/
def rtL (T : Nat) (A : List Nat) : List Int := [0] ++ (putL (ltA T : Nat) 4 ++ (putL (rtA T : Nat) 4 ++ ([1] ++ ndL A.length (rtA T) A)))
def rtN (A : List Nat) : Nat := 1 + 1 + ndN A.length A
/-- a table's bytes -/
def tbL (T : Nat) (A : List Nat) : List Int := putL ((12 + (rtL T A).length : Nat) : Int) 4 ++ (putL (rtN A : Nat) 4 ++ (putL (tbA T : Nat) 4 ++ rtL T A))
def TbRet (w : World) (T : Nat) (A : List Nat) (r : Ending) (w' : World) : Prop :=
  Below w.heap.size w w' ∧ ((plE A ≠ 0 ∧ r = .returned (.tuple #[.slice none 0 0, .int .i64 (plE A : Nat)])) ∨ (plE A = 0 ∧ ∃ g c, r = .returned (.tuple #[.slice (some ⟨g, 0, none⟩) (tbL T A).length c, .int .i64 0]) ∧ Reads w' (some ⟨g, 0, none⟩) (tbL T A).length c (tbL T A)))
theorem nd_len (T : Nat) (A : List Nat) (h : A.length ≤ 1000) : (ndL A.length T A).length ≤ 14000 ∧ ndN A.length A ≤ 2000 := by
  by_cases h0 : 0 < A.length
  · have h1 := ndL_le A.length T A (Nat.le_refl _) h0
    have h2 := ndN_le A.length A (Nat.le_refl _) h0
    omega
  · have e : A = [] := List.length_eq_zero_iff.1 (by omega)
    subst e
    exact ⟨by show 1 ≤ _; omega, by show 1 ≤ _; omega⟩
set_option maxHeartbeats 4000000 in
theorem ttable_all (T : Nat) (a : Option Addr) (n c : Nat) (A : List Nat) (w : World) (h : VRow w a n A) (hc : n ≤ c) (hcm : c ≤ 9223372036854775807) (hn : n ≤ 1000) (hT : T < 4294967296) :
    Calls Try.prog 7 #[.int .u32 T, .slice a n c] w (TbRet w T A) := by
  have hAl := h.ln
  have HPC := hidden (tplaces_any a n c A w h (by omega))
  by_cases hE : ¬ plE A = 0
  · have HPD : Hid (∀ r w', PcRet w A n (plE A) r w' → r = .returned (.tuple #[.map none, .int .i64 (plE A : Nat)]) ∧ Hid (Below w.heap.size w w')) := hidden (fun r w' hh => by
      rcases hh with ⟨hb, ⟨_, e⟩ | ⟨h0, _⟩⟩
      · exact ⟨e, hidden hb⟩
      · exact absurd h0 hE)
    have HFIN : Hid (∀ w', Below w.heap.size w w' → TbRet w T A (.returned (.tuple #[.slice none 0 0, .int .i64 (plE A : Nat)])) w') := hidden (fun w' hb => ⟨hb, .inl ⟨hE, rfl⟩⟩)
    generalize hPQ : TbRet w T A = PQ at *
    clear hPQ h
    have g3 : ¬ ((plE A : Nat) : Int) = 0 := by omega
    generalize plE A = EE at *
    go_enter Try.func7, Try.ntmps7
    go_wp2_with (first | (go_at_call 17; refine HPC.out.mono ?_; intro r w1 hpc; obtain ⟨rfl, HB1⟩ := HPD.out _ _ hpc; clear hpc))
    exact HFIN.out _ HB1.out
  replace hE : plE A = 0 := Decidable.not_not.1 hE
  rw [hE] at HPC
  have HPD : Hid (∀ r w', PcRet w A n 0 r w' → ∃ b, r = .returned (.tuple #[.map (some b), .int .i64 0]) ∧ Hid (Below w.heap.size w w')) := fun r w' hh => by
    rcases hh with ⟨hb, ⟨h0, _⟩ | ⟨_, b, e, hb2, ho⟩⟩
    · exact absurd rfl h0
    · exact ⟨b, e, hb⟩
  have hnd := nd_len (rtA T) A (by omega)
  have hTB : tbA T = (T + 12) % 4294967296 := rfl
  have hrl : (rtL T A).length = 10 + (ndL A.length (rtA T) A).length := by unfold rtL; simp [putL]; omega
  have HBR : Hid (∀ w1, Below w.heap.size w w1 → Calls Try.prog 18 #[.int .u32 (tbA T : Nat), .slice none 0 0, .slice a n c] w1 (NdRet w1 (rtL T A) (rtN A))) := hidden (fun w1 hb => by
    refine branch_of (tbA T) (ltA T) (rtA T) 1 (ndN A.length A) none a 0 0 n c [1] (ndL A.length (rtA T) A) w1 rfl rfl (by omega) (by show 1 ≤ _; omega) (by omega) (by omega) (by omega) (fun w2 hb2 => ?_) (fun w2 hb2 => ?_)
    · exact (node_nil (ltA T : Nat) none 0 w2).mono (fun r w' hh => ⟨_, _, hh.1, hh.2.1, hh.2.2⟩)
    · exact node_all A.length (rtA T) a n c A w2 (by omega) hc hcm ((h.later hb).later hb2) (Nat.mod_lt _ (by omega)) (by omega))
  obtain ⟨TB, hTBl⟩ : ∃ TB, TB = tbA T := ⟨_, rfl⟩
  obtain ⟨NN, hNN⟩ : ∃ NN, NN = rtN A := ⟨_, rfl⟩
  obtain ⟨RL, hRL⟩ : ∃ RL, RL = (rtL T A).length := ⟨_, rfl⟩
  obtain ⟨SZ, hSZ⟩ : ∃ SZ, SZ = 12 + RL := ⟨_, rfl⟩
  obtain ⟨rt, hrt⟩ : ∃ rt, rt = rtL T A := ⟨_, rfl⟩
  have HTE : Hid (tbL T A = putL (SZ : Int) 4 ++ (putL (NN : Int) 4 ++ (putL (TB : Int) 4 ++ rt))) := hidden (by unfold tbL; rw [hSZ, hNN, hTBl, hrt, hRL])
  have HTL : Hid ((tbL T A).length = 4 + (4 + (4 + RL))) := hidden (by rw [HTE.out, hRL, hrt]; simp [putL]; omega)
  rw [← hTBl, ← hNN, ← hrt] at HBR
  have f1 : IntKind.u32.wrap ((T : Int) + 12) = (TB : Int) := by rw [IntKind.wrap_u32]; omega
  have f2 : IntKind.i64.wrap (12 + (RL : Int)) = (SZ : Int) := by rw [IntKind.wrap_i64]; omega
  have f3 : IntKind.u32.wrap (SZ : Int) = (SZ : Int) := by rw [IntKind.wrap_u32]; omega
  have HND : Hid (∀ (w1 : World) r w', NdRet w1 rt NN r w' → ∃ g cc, r = .returned (.tuple #[.slice (some ⟨g, 0, none⟩) RL cc, .int .u32 (NN : Nat)]) ∧ Reads w' (some ⟨g, 0, none⟩) RL cc rt ∧ Below w1.heap.size w1 w') := hidden (fun w1 r w' hh => by rw [hRL, ← hrt]; exact hh)
  have HRLb := hidden (show RL ≤ 20000 by omega)
  have HP1 := hidden fun wx => put4 (SZ : Int) (putL SZ 4) rfl rfl wx
  have HP2 := hidden fun wx => put4 (NN : Int) (putL NN 4) rfl rfl wx
  have HP3 := hidden fun wx => put4 (TB : Int) (putL TB 4) rfl rfl wx
  have HFIN : Hid (∀ g cc w', Reads w' (some ⟨g, 0, none⟩) (tbL T A).length cc (tbL T A) → Below w.heap.size w w' → TbRet w T A (.returned (.tuple #[.slice (some ⟨g, 0, none⟩) (tbL T A).length cc, .int .i64 0])) w') := hidden (fun g cc w' hr hb => ⟨hb, .inr ⟨hE, g, cc, rfl, hr⟩⟩)
  generalize hPQ : TbRet w T A = PQ at *
  generalize tbL T A = ZT at *
  clear hPQ h hE hAl hnd hTB hrl hTBl hNN hRL hSZ hrt
  have HCC : Hid (∀ (w2 w3 w4 w5 : World) (g1 c' : Nat), Below w.heap.size w w2 → Below w2.heap.size w2 w3 → Below w3.heap.size w3 w4 → Below w4.heap.size w4 w5 → Reads w2 (some ⟨g1, 0, none⟩) RL c' rt → Reads w3 (some ⟨w2.heap.size, 0, none⟩) 4 4 (putL SZ 4) → Reads w4 (some ⟨w3.heap.size, 0, none⟩) 4 4 (putL NN 4) → Reads w5 (some ⟨w4.heap.size, 0, none⟩) 4 4 (putL TB 4) →
      Calls Try.prog 19 #[.slice (some ⟨w5.heap.size, 0, none⟩) 4 4] (w5.alloc (.cells #[.slice (some ⟨w2.heap.size, 0, none⟩) 4 4, .slice (some ⟨w3.heap.size, 0, none⟩) 4 4, .slice (some ⟨w4.heap.size, 0, none⟩) 4 4, .slice (some ⟨g1, 0, none⟩) RL c'] 25)) fun e w' => ∃ v, e = .returned v ∧ Hid (PQ (.returned (.tuple #[v, .int .i64 0])) w')) := fun w2 w3 w4 w5 g1 c' b2 b3 b4 b5 ra r3 r4 r5 => by
    have hba : Below w5.heap.size w5 (w5.alloc (.cells #[.slice (some ⟨w2.heap.size, 0, none⟩) 4 4, .slice (some ⟨w3.heap.size, 0, none⟩) 4 4, .slice (some ⟨w4.heap.size, 0, none⟩) 4 4, .slice (some ⟨g1, 0, none⟩) RL c'] 25)) := (Below.refl _ _).alloc (Nat.le_refl _) _
    have hh := heap_alloc_new w5 (.cells #[.slice (some ⟨w2.heap.size, 0, none⟩) 4 4, .slice (some ⟨w3.heap.size, 0, none⟩) 4 4, .slice (some ⟨w4.heap.size, 0, none⟩) 4 4, .slice (some ⟨g1, 0, none⟩) RL c'] 25)
    have ra' := (((ra.later b3).later b4).later b5).later hba
    have r3' := ((r3.later b4).later b5).later hba
    have r4' := (r4.later b5).later hba
    have r5' := r5.later hba
    have hbw : Below w.heap.size w w5 := ((b2.trans (b3.mono b2.size)).trans (b4.mono (Nat.le_trans b2.size b3.size))).trans (b5.mono (Nat.le_trans b2.size (Nat.le_trans b3.size b4.size)))
    generalize w5.alloc _ = w6 at *
    have hs : sumN [⟨some ⟨w2.heap.size, 0, none⟩, 4, 4, putL SZ 4⟩, ⟨some ⟨w3.heap.size, 0, none⟩, 4, 4, putL NN 4⟩, ⟨some ⟨w4.heap.size, 0, none⟩, 4, 4, putL TB 4⟩, ⟨some ⟨g1, 0, none⟩, RL, c', rt⟩] = ZT.length := by rw [HTL.out]; simp [sumN]
    have hz : catZ [⟨some ⟨w2.heap.size, 0, none⟩, 4, 4, putL SZ 4⟩, ⟨some ⟨w3.heap.size, 0, none⟩, 4, 4, putL NN 4⟩, ⟨some ⟨w4.heap.size, 0, none⟩, 4, 4, putL TB 4⟩, ⟨some ⟨g1, 0, none⟩, RL, c', rt⟩] = ZT := by rw [HTE.out]; simp [catZ]
    have hb20 := HRLb.out
    have := concat_any w5.heap.size 4 [⟨some ⟨w2.heap.size, 0, none⟩, 4, 4, putL SZ 4⟩, ⟨some ⟨w3.heap.size, 0, none⟩, 4, 4, putL NN 4⟩, ⟨some ⟨w4.heap.size, 0, none⟩, 4, 4, putL TB 4⟩, ⟨some ⟨g1, 0, none⟩, RL, c', rt⟩] w6 (fun i hi => by
        refine row_cells hh i _ ?_
        have hi5 : i < 4 := hi
        rcases (show i = 0 ∨ i = 1 ∨ i = 2 ∨ i = 3 by omega) with rfl | rfl | rfl | rfl <;> rfl) (fun r hr => by
        simp only [List.mem_cons, List.not_mem_nil, or_false] at hr
        rcases hr with rfl | rfl | rfl | rfl <;> assumption) (by rw [hs, HTL.out]; omega) (by rw [hs, HTL.out]; omega) (by show 4 ≤ 10; omega) 4 rfl
    refine this.mono ?_
    rintro e w' ⟨g, c2, rfl, ho, hb⟩
    rw [hs, hz] at ho
    rw [hs]
    exact ⟨_, rfl, hidden (HFIN.out g c2 w' (own_reads ho) ((hbw.trans (hba.mono hbw.size)).trans (hb.mono (Nat.le_trans hbw.size hba.size))))⟩
  clear HFIN HTE HTL
  go_enter Try.func7, Try.ntmps7
  go_wp2_with (first | (go_at_call 17; refine HPC.out.mono ?_; intro r w1 hpc; obtain ⟨b, rfl, HB1⟩ := HPD.out _ _ hpc; clear hpc) | (go_at_call 18; refine (HBR.out _ HB1.out).mono ?_; intro r w2 hh; obtain ⟨g2, d2, rfl, hr2, hb2⟩ := HND.out _ _ _ hh; clear hh; have HR2 := hidden hr2; have HB2 := hidden (HB1.out.trans (hb2.mono HB1.out.size)); clear hr2 hb2) | (go_at_call_of 20 (Value.int IntKind.u32 (SZ : Int)); refine (HP1.out _).mono ?_; rintro r w3 ⟨rfl, hr3, hb3⟩; have HR3 := hidden hr3; have HB3 := hidden hb3; clear hr3 hb3) | (go_at_call_of 20 (Value.int IntKind.u32 (NN : Int)); refine (HP2.out _).mono ?_; rintro r w4 ⟨rfl, hr4, hb4⟩; have HR4 := hidden hr4; have HB4 := hidden hb4; clear hr4 hb4) | (go_at_call_of 20 (Value.int IntKind.u32 (TB : Int)); refine (HP3.out _).mono ?_; rintro r w5 ⟨rfl, hr5, hb5⟩; have HCA := hidden (HCC.out _ _ _ _ _ _ HB2.out HB3.out HB4.out hb5 HR2.out HR3.out HR4.out hr5); clear hr5 hb5) | (go_at_call 19; refine HCA.out.mono ?_; rintro r w7 ⟨v7, rfl, HR7⟩))
  exact HR7.out
end Go.Proofs.Ytbifolpahmeaeaa
