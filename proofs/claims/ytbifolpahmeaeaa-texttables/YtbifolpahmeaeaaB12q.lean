/- Table of the page's example; the document's Words; live. -/
import Derived.Test.YtbifolpahmeaeaaB12p
import Derived.Test.YtbifolpahmeaeaaB12o
import Derived.Test.YtbifolpahmeaeaaB12k
namespace Go.Proofs.Ytbifolpahmeaeaa
open Go.RowKit Go.Maps
set_option maxHeartbeats 1000000
set_option maxRecDepth 100000
set_option linter.unusedVariables false

def tabB : List Int := [0, 0, 0, 24, 0, 0, 0, 3, 0, 0, 0, 12, 0, 0, 0, 0, 21, 0, 0, 0, 22, 1, 2, 97]
theorem ttable_live (a : Option Addr) (c : Nat) (w : World) (h : VRow w a 1 [97]) :
    Calls Try.prog 7 #[.int .u32 0, .slice a 1 c] w fun r w' => ∃ a' c', r = .returned (.tuple #[.slice a' 24 c', .int .i64 0]) ∧ Hid (Reads w' a' 24 c' tabB) ∧ Hid (Below w.heap.size w w') := by
  have hE : plE [97] = 0 := by decide
  have HPC := hidden (tplaces_any a 1 c [97] w h (by omega))
  rw [hE] at HPC
  have HPD : Hid (∀ r w', PcRet w [97] 1 0 r w' → ∃ b, r = .returned (.tuple #[.map (some b), .int .i64 0]) ∧ Hid (Below w.heap.size w w')) := fun r w' hh => by
    rcases hh with ⟨hb, ⟨h0, _⟩ | ⟨_, b, e, hb2, ho⟩⟩
    · exact absurd rfl h0
    · exact ⟨b, e, hb⟩
  have HBR : Hid (∀ w1, Below w.heap.size w w1 → Calls Try.prog 18 #[.int .u32 12, .slice none 0 0, .slice a 1 c] w1 fun r w' => ∃ a' c', r = .returned (.tuple #[.slice a' 12 c', .int .u32 3]) ∧ Reads w' a' 12 c' [0, 0, 0, 0, 21, 0, 0, 0, 22, 1, 2, 97] ∧ Below w1.heap.size w1 w') := fun w1 hb => branch_97 a c w1 (h.later hb)
  have HP1 := hidden fun wx => put4 24 [0, 0, 0, 24] (by decide) rfl wx
  have HP2 := hidden fun wx => put4 3 [0, 0, 0, 3] (by decide) rfl wx
  have HP3 := hidden fun wx => put4 12 [0, 0, 0, 12] (by decide) rfl wx
  have HCC : Hid (∀ (w2 w3 w4 w5 : World) (a' : Option Addr) (c' : Nat), Below w.heap.size w w2 → Below w2.heap.size w2 w3 → Below w3.heap.size w3 w4 → Below w4.heap.size w4 w5 → Reads w2 a' 12 c' [0, 0, 0, 0, 21, 0, 0, 0, 22, 1, 2, 97] → Reads w3 (some ⟨w2.heap.size, 0, none⟩) 4 4 [0, 0, 0, 24] → Reads w4 (some ⟨w3.heap.size, 0, none⟩) 4 4 [0, 0, 0, 3] → Reads w5 (some ⟨w4.heap.size, 0, none⟩) 4 4 [0, 0, 0, 12] →
      Calls Try.prog 19 #[.slice (some ⟨w5.heap.size, 0, none⟩) 4 4] (w5.alloc (.cells #[.slice (some ⟨w2.heap.size, 0, none⟩) 4 4, .slice (some ⟨w3.heap.size, 0, none⟩) 4 4, .slice (some ⟨w4.heap.size, 0, none⟩) 4 4, .slice a' 12 c'] 25)) fun e w' => ∃ a' c', e = .returned (.slice a' 24 c') ∧ Hid (Reads w' a' 24 c' tabB) ∧ Hid (Below w.heap.size w w')) := fun w2 w3 w4 w5 a' c' b2 b3 b4 b5 ra r3 r4 r5 => by
    have hba : Below w5.heap.size w5 (w5.alloc (.cells #[.slice (some ⟨w2.heap.size, 0, none⟩) 4 4, .slice (some ⟨w3.heap.size, 0, none⟩) 4 4, .slice (some ⟨w4.heap.size, 0, none⟩) 4 4, .slice a' 12 c'] 25)) := (Below.refl _ _).alloc (Nat.le_refl _) _
    have hh := heap_alloc_new w5 (.cells #[.slice (some ⟨w2.heap.size, 0, none⟩) 4 4, .slice (some ⟨w3.heap.size, 0, none⟩) 4 4, .slice (some ⟨w4.heap.size, 0, none⟩) 4 4, .slice a' 12 c'] 25)
    have ra' := (((ra.later b3).later b4).later b5).later hba
    have r3' := ((r3.later b4).later b5).later hba
    have r4' := (r4.later b5).later hba
    have r5' := r5.later hba
    have hbw : Below w.heap.size w w5 := ((b2.trans (b3.mono b2.size)).trans (b4.mono (Nat.le_trans b2.size b3.size))).trans (b5.mono (Nat.le_trans b2.size (Nat.le_trans b3.size b4.size)))
    generalize w5.alloc _ = w6 at *
    have := concat_any w5.heap.size 4 [⟨some ⟨w2.heap.size, 0, none⟩, 4, 4, [0, 0, 0, 24]⟩, ⟨some ⟨w3.heap.size, 0, none⟩, 4, 4, [0, 0, 0, 3]⟩, ⟨some ⟨w4.heap.size, 0, none⟩, 4, 4, [0, 0, 0, 12]⟩, ⟨a', 12, c', [0, 0, 0, 0, 21, 0, 0, 0, 22, 1, 2, 97]⟩] w6 (fun i hi => by
        refine row_cells hh i _ ?_
        have hi5 : i < 4 := hi
        rcases (show i = 0 ∨ i = 1 ∨ i = 2 ∨ i = 3 by omega) with rfl | rfl | rfl | rfl <;> rfl) (fun r hr => by
        simp only [List.mem_cons, List.not_mem_nil, or_false] at hr
        rcases hr with rfl | rfl | rfl | rfl <;> assumption) (by show 0 < 24; omega) (by show 24 ≤ 100000000; omega) (by show 4 ≤ 10; omega) 4 rfl
    refine this.mono ?_
    rintro e w' ⟨g, c2, rfl, ho, hb⟩
    have hs : sumN [⟨some ⟨w2.heap.size, 0, none⟩, 4, 4, [0, 0, 0, 24]⟩, ⟨some ⟨w3.heap.size, 0, none⟩, 4, 4, [0, 0, 0, 3]⟩, ⟨some ⟨w4.heap.size, 0, none⟩, 4, 4, [0, 0, 0, 12]⟩, ⟨a', 12, c', [0, 0, 0, 0, 21, 0, 0, 0, 22, 1, 2, 97]⟩] = 24 := rfl
    rw [hs] at ho ⊢
    exact ⟨_, _, rfl, own_reads ho, (hbw.trans (hba.mono hbw.size)).trans (hb.mono (Nat.le_trans hbw.size hba.size))⟩
  clear h hE
  go_enter Try.func7, Try.ntmps7
  go_wp2_with (first | (go_at_call 17; refine HPC.out.mono ?_; intro r w1 hpc; obtain ⟨b, rfl, HB1⟩ := HPD.out _ _ hpc; clear hpc) | (go_at_call 18; refine (HBR.out _ HB1.out).mono ?_; rintro r w2 ⟨a2, c2, rfl, hr2, hb2⟩; have HR2 := hidden hr2; have HB2 := hidden (HB1.out.trans (hb2.mono HB1.out.size)); clear hr2 hb2) | (go_at_call_of 20 (Value.int IntKind.u32 24); refine (HP1.out _).mono ?_; rintro r w3 ⟨rfl, hr3, hb3⟩; have HR3 := hidden hr3; have HB3 := hidden hb3; clear hr3 hb3) | (go_at_call_of 20 (Value.int IntKind.u32 3); refine (HP2.out _).mono ?_; rintro r w4 ⟨rfl, hr4, hb4⟩; have HR4 := hidden hr4; have HB4 := hidden hb4; clear hr4 hb4) | (go_at_call_of 20 (Value.int IntKind.u32 12); refine (HP3.out _).mono ?_; rintro r w5 ⟨rfl, hr5, hb5⟩; have HCA := hidden (HCC.out _ _ _ _ _ _ HB2.out HB3.out HB4.out hb5 HR2.out HR3.out HR4.out hr5); clear hr5 hb5) | (go_at_call 19; refine HCA.out.mono ?_; rintro r w7 ⟨a7, c7, rfl, HR7, HB7⟩))
  go_ret2
  exact ⟨a7, c7, rfl, HR7, HB7⟩
theorem num12 (x : Int) (w : World) : Calls Try.prog 12 #[.int .i64 x] w fun e w' => e = .returned (.int .i64 x) ∧ w' = w := by
  go_enter Try.func12, Try.ntmps12
  go_wp2
  go_ret
  exact ⟨rfl, rfl⟩
theorem words_any (a1 a2 : Option Addr) (n1 n2 c1 c2 : Nat) (xs ys : List Nat) (w : World) (h1 : VRow w a1 n1 xs) (h2 : VRow w a2 n2 ys) (hn : n1 ≤ 100000000) :
    Calls Try.prog 13 #[.slice a1 n1 c1, .slice a2 n2 c2] w fun e w' => e = .returned (.bool (decide (xs = ys))) ∧ Dr w w' := by
  have hl1 := h1.ln
  have hl2 := h2.ln
  by_cases hn12 : n1 = n2
  · subst hn12
    have HV1 := hidden h1
    have HV2 := hidden h2
    obtain ⟨D, hD⟩ : ∃ D, D = decide (xs = ys) := ⟨_, rfl⟩
    rw [← hD]
    have HD := hidden hD
    clear h1 h2 hD
    go_enter Try.func13, Try.ntmps13
    go_wp2
    go_loopw [5] (fun i wr => ∃ k : Nat, k ≤ n1 ∧ i = .int .i64 k ∧ Hid (Dr w wr) ∧ Hid (∀ j, j < k → xs.getD j 0 = ys.getD j 0)) (fun i _ => n1 - (intOf i).toNat)
    case atStart => exact ⟨0, by omega, rfl, Dr.refl w, fun j hj => by omega⟩
    case round =>
      obtain ⟨k, hk, rfl, HDr, HE⟩ := hrel
      by_cases hlt : k < n1
      · have d1 : (k : Int) < (n1 : Int) := by omega
        have d0 : (0 : Int) ≤ (k : Int) := by omega
        obtain ⟨b1, o1, rfl, e1⟩ := HV1.out.cells k hlt
        obtain ⟨b2, o2, rfl, e2⟩ := HV2.out.cells k hlt
        have f1 := cellLater HDr.out.below e1
        have f2 := cellLater HDr.out.below e2
        clear e1 e2
        by_cases heq : xs.getD k 0 = ys.getD k 0
        · have HE2 : Hid (∀ j, j < k + 1 → xs.getD j 0 = ys.getD j 0) := fun j hj => by
            by_cases e : j = k
            · rw [e]; exact heq
            · exact HE.out j (by omega)
          rw [heq] at f1
          clear heq
          generalize ys.getD k 0 = Y at *
          go_wp2
          go_quiet (fail)
          all_goals (try go_wp2)
          go_roundw
          case rel => exact ⟨k + 1, by omega, by go_num, HDr.out.more _, HE2⟩
          case measure => simp [intOf]; omega
        · have hDf : D = false := by
            rw [HD.out]
            exact decide_eq_false (fun e => heq (by rw [e]))
          subst hDf
          have hb2 : ¬ ((xs.getD k 0 : Nat) : Int) = ((ys.getD k 0 : Nat) : Int) := by omega
          have hb : (((xs.getD k 0 : Nat) : Int) == ((ys.getD k 0 : Nat) : Int)) = false := beq_eq_false_iff_ne.2 hb2
          clear heq
          generalize ys.getD k 0 = Y at *
          generalize xs.getD k 0 = X at *
          go_wp2
          go_quiet (fail)
          all_goals (try go_wp2)
          go_ret
          exact ⟨rfl, HDr.out.more _⟩
      · obtain rfl : k = n1 := by omega
        have d1 : ¬ (k : Int) < (k : Int) := by omega
        have hDt : D = true := by
          rw [HD.out]
          refine decide_eq_true (List.ext_getElem (by omega) (fun j h3 h4 => ?_))
          have := HE.out j (by omega)
          simpa [List.getD_eq_getElem?_getD, h3, h4] using this
        subst hDt
        go_wp2
        go_ret
        exact ⟨rfl, HDr.out⟩
  · have hD : decide (xs = ys) = false := decide_eq_false (fun e => by subst e; omega)
    rw [hD]
    have d1 : ((n1 : Int) == (n2 : Int)) = false := by simp; omega
    have d2 : ¬ (n1 : Int) = (n2 : Int) := by omega
    go_enter Try.func13, Try.ntmps13
    go_wp2
    go_ret
    exact ⟨rfl, Dr.refl _⟩
theorem plrun_det {N : Ta → Nx} {most : Nat} {l : List Nat} {t : Ta} {em : Nat} {r : List Nat} {wh : Bool} {e : Nat} (h : PlRun N most l t em r wh e) : ∀ {r' wh' e'}, PlRun N most l t em r' wh' e' → r = r' ∧ wh = wh' ∧ e = e' := by
  induction h with
  | out h1 => intro r' wh' e' h; cases h <;> first | exact ⟨rfl, rfl, rfl⟩ | omega
  | err h1 h2 => intro r' wh' e' h; cases h <;> first | exact ⟨rfl, rfl, rfl⟩ | omega
  | fin h1 h2 h3 => intro r' wh' e' h; cases h <;> first | exact ⟨rfl, rfl, rfl⟩ | omega
  | full h1 h2 h3 h4 => intro r' wh' e' h; cases h <;> first | exact ⟨rfl, rfl, rfl⟩ | omega
  | ref h1 h2 h3 h4 h5 => intro r' wh' e' h; cases h <;> first | exact ⟨rfl, rfl, rfl⟩ | omega
  | cut h1 h2 h3 h4 h5 h6 => intro r' wh' e' h; cases h <;> first | exact ⟨rfl, rfl, rfl⟩ | omega
  | emp h1 h2 h3 h4 h5 h6 h7 h8 ih => intro r' wh' e' h; cases h <;> first | (apply ih; assumption) | omega
  | more h1 h2 h3 h4 h5 h6 h7 h8 ih => intro r' wh' e' h; cases h <;> first | (apply ih; assumption) | omega
theorem plr_det {zs : List Int} {table addr most : Nat} {r r' : List Nat} {wh wh' : Bool} {e e' : Nat} (h : PlR zs table addr most r wh e) (h' : PlR zs table addr most r' wh' e') : r = r' ∧ wh = wh' ∧ e = e' := by
  rcases h with ⟨h1, rfl, rfl, rfl⟩ | ⟨h1, h2⟩
  · rcases h' with ⟨h3, rfl, rfl, rfl⟩ | ⟨h3, _⟩
    · exact ⟨rfl, rfl, rfl⟩
    · exact absurd h3 h1
  · rcases h' with ⟨h3, _⟩ | ⟨h3, h4⟩
    · exact absurd h1 h3
    · exact plrun_det h2 h4
def liveB : List Int := [224, 97, 98, 0]
theorem live_run : PlR liveB 0 0 9 [97, 98] true 0 := by
  have hb : bgN liveB 0 = (0, ⟨224, 1, 0⟩) := by rfl
  have n1 : nxN liveB 0 ⟨224, 1, 0⟩ = ⟨0, 2, [97], ⟨224, 2, 0⟩⟩ := by rfl
  have n2 : nxN liveB 0 ⟨224, 2, 0⟩ = ⟨0, 2, [98], ⟨224, 3, 0⟩⟩ := by rfl
  have n3 : nxN liveB 0 ⟨224, 3, 0⟩ = ⟨0, 1, [], ⟨224, 4, 0⟩⟩ := by rfl
  refine .inr ⟨by rw [hb], ?_⟩
  rw [hb]
  refine .more (by omega) (by rw [n1]) (by rw [n1]; decide) (by decide) (by rw [n1]; decide) (by rw [n1]; decide) (by rw [n1]; decide) ?_
  rw [n1]
  refine .more (by omega) (by rw [n2]) (by rw [n2]; decide) (by decide) (by rw [n2]; decide) (by rw [n2]; decide) (by rw [n2]; decide) ?_
  rw [n2]
  exact .fin (by omega) (by rw [n3]) (by rw [n3])
end Go.Proofs.Ytbifolpahmeaeaa
