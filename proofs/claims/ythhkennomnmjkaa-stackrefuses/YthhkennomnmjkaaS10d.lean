/- Contracts of eachLocal and layout of package stack, of Locals and of New. -/
import Derived.Test.YthhkennomnmjkaaS10c
namespace Go.Proofs.Ythhkennomnmjkaa
open Go.RowKit
set_option maxHeartbeats 1000000
set_option maxRecDepth 100000
set_option linter.unusedVariables false
theorem pre_mid {α : Type} {q A B all : List α} {p : α} (h : q ++ (p :: A ++ B) = all) : (q ++ [p]) <+: all ∧ (q ++ [p]) ++ (A ++ B) = all :=
  ⟨⟨A ++ B, by rw [← h]; simp⟩, by rw [← h]; simp⟩

theorem each_lay (J Jx : List (Nat × Nat) → World → Prop) (cv : Value) (a : Option Addr) (n c : Nat) (zs : List Int) (w : World) (hn : n ≤ 2000000) (hp : isPairs zs) (hl : zs.length = n) (hb : OkB zs)
    (hJ : ∀ pre wx, J pre wx → Reads wx a n c zs) (h0 : J [] w)
    (hS : ∀ pre p q wx, J pre wx → (q = 1 ∨ q = 2 ∨ q = 4) → p + q ≤ 893 * n + 3600 → (pre ++ [(p, q)]) <+: slL zs 0 → Calls Try.prog 81 #[.int .i64 (p : Nat), .int .i64 (q : Nat), cv] wx fun e w' => (e = .returned (.bool true) ∧ J (pre ++ [(p, q)]) w') ∨ (e = .returned (.bool false) ∧ Jx (pre ++ [(p, q)]) w')) :
    Calls Try.prog 62 #[.slice a n c, .func (.func 81) #[] #[cv]] w fun e w' => e = .returned (.tuple #[]) ∧ (J (slL zs 0) w' ∨ ∃ pre, pre <+: slL zs 0 ∧ Jx pre w') := by
  have HJ := hidden hJ
  have H0 := hidden h0
  have HS := hidden hS
  have HP := hidden hp
  have HL := hidden hl
  have HB := hidden hb
  clear hJ h0 hS hp hl hb
  go_enter Try.func62, Try.ntmps62
  go_wp2
  go_loopw [4, 5] (fun at_ i wr => ∃ (k p : Nat) (pre : List (Nat × Nat)), k ≤ n + 1 ∧ i = .int .i64 k ∧ at_ = .int .i64 p ∧ p ≤ 893 * k ∧ Hid (J pre wr) ∧ Hid (isPairs (zs.drop k)) ∧ Hid (pre ++ slL (zs.drop k) p = slL zs 0)) (fun _ i _ => n + 2 - (intOf i).toNat)
  case atStart => exact ⟨0, 0, [], by omega, rfl, rfl, by omega, H0, by rw [List.drop_zero]; exact HP, by rw [List.drop_zero]; rfl⟩
  case round =>
    clear H0 HP
    obtain ⟨k, p, pre, hk, rfl, rfl, hpk, HJ1, HP, HE⟩ := hrel
    by_cases hlt : k + 1 < n
    · have hrd := HJ.out _ _ HJ1.out
      obtain ⟨g, o, rfl, hB⟩ := hrd.bs (by omega)
      have hcn : n ≤ c := hrd.2.1
      have hl' : k + 1 < zs.length := by rw [HL.out]; exact hlt
      have c0 := hB.2 k (by omega)
      have c1 := hB.2 (k + 1) (by omega)
      have b0 := okb_at HB.out k
      have b1 := okb_at HB.out (k + 1)
      obtain ⟨e1, _⟩ := slL_two zs k p hl'
      have hpp := HP.out
      rw [drop_two zs k hl'] at hpp
      obtain ⟨hw, hk0, hk1, hpr⟩ := hpp
      have HE1 := hidden ((congrArg (pre ++ ·) e1).symm.trans HE.out)
      clear e1 HE hB hl' hrd HP
      generalize zs.getD k 0 = x at *
      generalize zs.getD (k + 1) 0 = y at *
      obtain ⟨x, rfl⟩ := Int.eq_ofNat_of_zero_le b0.1
      obtain ⟨y, rfl⟩ := Int.eq_ofNat_of_zero_le b1.1
      simp only [Int.toNat_natCast] at HE1
      have HPR := hidden hpr
      have d1 : (k : Int) + 1 < (n : Int) := by omega
      have hw1 : IntKind.i64.wrap ((k : Int) + 1) = (k : Int) + 1 := by rw [IntKind.wrap_i64]; omega
      have t1 : ((k : Int) + 1).toNat = k + 1 := by omega
      have c1' : wr.cell? ⟨g, o + ((k : Int) + 1).toNat, none⟩ = some (.int .u8 y) := by rw [t1]; exact c1
      have wx8 : IntKind.i64.wrap (x : Int) = x := by rw [IntKind.wrap_i64]; omega
      clear hpr
      go_wp2
      generalize hwq : wr = wq at *
      clear hwq
      go_loopw [4, 24] (fun at_ i wr => ∃ (j r : Nat) (qre : List (Nat × Nat)), j ≤ y ∧ i = .int .u8 j ∧ at_ = .int .i64 r ∧ r ≤ 893 * k + 7 * j ∧ Hid (J qre wr) ∧ Hid (qre ++ (slR x (y - j) r ++ slL (zs.drop (k + 2)) (enR x (y - j) r)) = slL zs 0)) (fun _ i _ => y - (intOf i).toNat)
      case atStart => exact ⟨0, p, pre, by omega, rfl, rfl, by omega, HJ1, by rw [Nat.sub_zero]; exact HE1⟩
      case round =>
        clear HJ1 HE1 c0 c1 c1'
        obtain ⟨j, r, qre, hj, rfl, rfl, hr, HJ2, HE2⟩ := hrel
        by_cases hjl : j < y
        · have hxw : x = 1 ∨ x = 2 ∨ x = 4 := by omega
          have hub := upN_bd r x hxw
          have HU := hidden fun wx => kup_any r x wx hxw (by omega)
          have e3 : y - j = (y - (j + 1)) + 1 := by omega
          rw [e3, slR, enR] at HE2
          have HC := hidden (HS.out qre (upN r x) x wr HJ2.out hxw (by omega) (pre_mid HE2.out).1)
          generalize upN r x = u at *
          have hw2 : IntKind.i64.wrap ((u : Int) + (x : Int)) = (u : Int) + (x : Int) := by rw [IntKind.wrap_i64]; omega
          have d2 : (j : Int) < (y : Int) := by omega
          have hw3 : IntKind.u8.wrap ((j : Int) + 1) = (j : Int) + 1 := by rw [IntKind.wrap_u8]; omega
          obtain ⟨hub0, hub1, _⟩ := hub
          have hx4 : x ≤ 4 := by omega
          clear hw e3 hub0
          go_wp2_with (first | (go_at_call 82; refine (HU.out _).mono ?_; rintro e w1 ⟨rfl, rfl⟩) | (go_at_call 81; refine HC.out.mono ?_; rintro e w2 (⟨rfl, hj2⟩ | ⟨rfl, hjx⟩)))
          · have HJ3 := hidden hj2
            clear hj2
            go_roundw
            case rel => exact ⟨j + 1, u + x, qre ++ [(u, x)], by omega, int_eq (by omega), int_eq (by omega), by omega, HJ3, (pre_mid HE2.out).2⟩
            case measure => simp [intOf]; omega
          · refine bodyPost_ret (v := .tuple #[]) (by simp [results, Try.results62, go_sem]) rfl ⟨rfl, .inr ⟨_, (pre_mid HE2.out).1, hjx⟩⟩
        · obtain rfl : j = y := by omega
          have d2 : ¬ (j : Int) < (j : Int) := by omega
          rw [Nat.sub_self] at HE2
          have hw4 : IntKind.i64.wrap ((k : Int) + 2) = (k : Int) + 2 := by rw [IntKind.wrap_i64]; omega
          go_wp2
          go_roundw
          case rel => exact ⟨k + 2, r, qre, by omega, int_eq (by omega), rfl, by omega, HJ2, HPR, HE2⟩
          case measure => simp [intOf]; omega
    · have d1 : ¬ (k : Int) + 1 < (n : Int) := by omega
      have hw1 : IntKind.i64.wrap ((k : Int) + 1) = (k : Int) + 1 := by rw [IntKind.wrap_i64]; omega
      have e := HE.out
      rw [(slL_few zs k p (by rw [HL.out]; exact hlt)).1, List.append_nil] at e
      subst e
      go_wp2
      refine bodyPost_end (v := .tuple #[]) (by simp [results, Try.results62, go_sem]) rfl ⟨rfl, .inl HJ1.out⟩
theorem kup4_any (x : Nat) (w : World) (hx : x ≤ 4294967296000) :
    Calls Try.prog 82 #[.int .i64 x, .int .i64 4] w fun e w' => e = .returned (.int .i64 (upN x 4)) ∧ w' = w := kup_any x 4 w (by simp) hx
theorem lay1_any (p q Bx : Nat) (x : Int) (w : World) (h : w.heap[Bx]? = some (.cells #[.int .i64 x] 3 (0, 0))) (hp : p + q ≤ 4294967296000) :
    Calls Try.prog 81 #[.int .i64 (p : Nat), .int .i64 (q : Nat), .pointer (some ⟨Bx, 0, none⟩)] w fun e w' => e = .returned (.bool true) ∧ w' = w.setCell ⟨Bx, 0, none⟩ (.int .i64 (p + q : Nat)) := by
  have hc := cell_of_one h
  have hf := free_of_one h
  have hw : IntKind.i64.wrap ((p : Int) + (q : Int)) = (p : Int) + (q : Int) := by rw [IntKind.wrap_i64]; omega
  clear h
  go_enter Try.func81, Try.ntmps81
  go_wp2
  go_ret
  exact ⟨rfl, by rw [Int.natCast_add]⟩
/-- where the last of some locals ends -/
def lastE (l : List (Nat × Nat)) : Nat := match l.getLast? with
  | some p => p.1 + p.2
  | none => 0
theorem lastE_snoc (l : List (Nat × Nat)) (p q : Nat) : lastE (l ++ [(p, q)]) = p + q := by simp [lastE]
theorem lastE_all (f : List Int) : lastE (slL f 0) = enL f 0 := by
  rcases slL_last f 0 with ⟨h1, h2⟩ | ⟨l, p, h1, h2⟩
  · rw [h1, h2]; rfl
  · obtain ⟨p, q⟩ := p
    rw [h1, lastE_snoc]; exact h2
theorem klay_any (a : Option Addr) (n c : Nat) (zs : List Int) (w : World) (h : Reads w a n c zs) (hb : OkB zs) (hn : n ≤ 2000000) (hp : isPairs zs) :
    Calls Try.prog 46 #[.slice a n c] w fun e w' => e = .returned (.tuple #[.int .i64 (posF zs), .int .i64 (szF zs)]) ∧ Below w.heap.size w w' := by
  have hl := h.1
  have hbd := (enL_mono zs 0 hp).2
  have hsz : szF zs ≤ 1785 * n + 3 := by have := upN_bd (enL zs 0) 4 (by simp); unfold szF; omega
  have e0 : posF zs = upN (8 + n) 4 := by unfold posF; rw [hl]
  have HE : Hid (∀ w1, Below w.heap.size w w1 → w1.heap[w.heap.size]? = some (.cells #[.int .i64 0] 3 (0, 0)) → Calls Try.prog 62 #[.slice a n c, .func (.func 81) #[] #[.pointer (some ⟨w.heap.size, 0, none⟩)]] w1 fun e w' => e = .returned (.tuple #[]) ∧ Below w.heap.size w w' ∧ w'.heap[w.heap.size]? = some (.cells #[.int .i64 (enL zs 0)] 3 (0, 0))) := fun w1 hb1 hc1 => by
    refine (each_lay (fun pre wx => Below w.heap.size w wx ∧ wx.heap[w.heap.size]? = some (.cells #[.int .i64 (lastE pre)] 3 (0, 0))) (fun _ _ => False) _ a n c zs w1 hn hp hl hb (fun pre wx hj => h.later hj.1) ⟨hb1, hc1⟩ (fun pre p q wx hj hq hpq _ => ?_)).mono ?_
    · refine (lay1_any p q w.heap.size _ wx hj.2 (by omega)).mono ?_
      rintro e w' ⟨rfl, rfl⟩
      refine .inl ⟨rfl, hj.1.setCell (p := ⟨w.heap.size, 0, none⟩) (Nat.le_refl _) _, ?_⟩
      rw [lastE_snoc]
      exact one_setCell hj.2
    · rintro e w' ⟨rfl, h' | ⟨_, _, hf⟩⟩
      · rw [lastE_all] at h'
        exact ⟨rfl, h'⟩
      · exact hf.elim
  have HU1 := hidden fun wx => kup4_any (8 + n) wx (by omega)
  have HU2 := hidden fun wx => kup4_any (enL zs 0) wx (by omega)
  have hmf : ∀ (fn : Fn) (first cap : Array Value) (w : World), (Instr.makeFunc fn first cap).run Try.prog w = .ok (.func fn first cap) w := fun _ _ _ _ => rfl
  rw [e0, show szF zs = upN (enL zs 0) 4 from rfl]
  clear h hb hp e0
  have hw : IntKind.i64.wrap (8 + (n : Int)) = 8 + (n : Int) := by rw [IntKind.wrap_i64]; omega
  have e8 : ((8 + n : Nat) : Int) = 8 + (n : Int) := by omega
  rw [e8] at HU1
  generalize upN (8 + n) 4 = P at *
  rw [show szF zs = upN (enL zs 0) 4 from rfl] at hsz
  generalize upN (enL zs 0) 4 = S at *
  generalize enL zs 0 = E at *
  clear e8
  have hb1 : Below w.heap.size w (w.alloc (.cells #[.int .i64 0] 3)) := (Below.refl _ _).alloc (Nat.le_refl _) _
  have hq1 : (w.alloc (.cells #[.int .i64 0] 3)).heap[w.heap.size]? = some (.cells #[.int .i64 0] 3 (0, 0)) := heap_alloc_new _ _
  have HE1 := hidden (HE.out _ hb1 hq1)
  clear HE hb1 hq1
  go_enter Try.func46, Try.ntmps46
  go_wp2_with (first | (go_at_call 62; refine HE1.out.mono ?_; rintro e w1 ⟨rfl, hb1, hq1⟩; have hc1 := cell_of_one hq1; have hf1 := free_of_one hq1; have HB1 := hidden hb1; have HQ1 := hidden hq1; clear hb1 hq1))
  go_region_with (first | (go_at_call 82; (with_reducible refine (HU1.out _).mono ?_); rintro e w2 ⟨rfl, rfl⟩) | (go_at_call 82; (with_reducible refine (HU2.out _).mono ?_); rintro e w2 ⟨rfl, rfl⟩) | fail)
  all_goals go_wp2
  all_goals (
    have hcs : (w1.setCell ⟨w.heap.size, 0, none⟩ (.int .i64 S)).cell? ⟨w.heap.size, 0, none⟩ = some (.int .i64 S) := World.cell?_setCell_same' _ _ _ (by rw [hc1]; rfl)
    refine bodyPost_ret (v := .tuple #[.int .i64 P, .int .i64 S]) (by simp [results, Try.results46, go_sem, hcs]) rfl ⟨rfl, (HB1.out.setCell (p := ⟨w.heap.size, 0, none⟩) (Nat.le_refl _) _).drew⟩)
/-- what Locals answers -/
def locR (zs : List Int) : Nat × Nat × Nat := if fmtL zs = 0 ∨ fmtL zs ≠ zs.length then (0, 0, 102) else (posF zs, szF zs, 0)
theorem kloc_any (a : Option Addr) (n c : Nat) (zs : List Int) (w : World) (h : Reads w a n c zs) (hb : OkB zs) (hn : n ≤ 2000000) :
    Calls Try.prog 12 #[.slice a n c] w fun e w' => e = .returned (.tuple #[.int .i64 (locR zs).1, .int .i64 (locR zs).2.1, .int .i64 (locR zs).2.2]) ∧ Below w.heap.size w w' := by
  have hl := h.1
  have HF := hidden (kfmt_any a n c zs w h hb hn)
  unfold locR
  by_cases h0 : fmtL zs = 0
  · rw [if_pos (.inl h0)]
    unfold FoRet at HF
    simp only [if_pos h0] at HF
    clear h hb
    go_enter Try.func12, Try.ntmps12
    go_wp2_with (go_at_call 45; refine HF.out.mono ?_; rintro e w1 ⟨hb1, rfl⟩; replace hb1 := hb1.below)
    go_ret3
    exact ⟨rfl, hb1⟩
  · unfold FoRet at HF
    simp only [if_neg h0] at HF
    by_cases h1 : fmtL zs = zs.length
    · rw [if_neg (fun h => h.elim h0 (fun h2 => h2 h1))]
      have hpr := pairs_of zs hb h0
      rw [h1, List.take_length] at hpr
      have HL : Hid (∀ wx, Below w.heap.size w wx → Calls Try.prog 46 #[.slice a n c] wx fun e w' => e = .returned (.tuple #[.int .i64 (posF zs), .int .i64 (szF zs)]) ∧ Below w.heap.size w w') := fun wx hbx => (klay_any a n c zs wx (h.later hbx) hb hn hpr).mono (fun e w' hh => ⟨hh.1, hbx.trans (hh.2.mono hbx.size)⟩)
      rw [h1, hl] at HF
      clear h hb hpr h0 h1
      generalize posF zs = P at *
      generalize szF zs = S at *
      have q : ((n : Int) == (n : Int)) = true := by simp
      go_enter Try.func12, Try.ntmps12
      go_wp2_with (first | (go_at_call 45; refine HF.out.mono ?_; rintro e w1 ⟨hb1, rfl⟩; replace hb1 := hb1.below) | (go_at_call 46; refine (HL.out _ hb1).mono ?_; rintro e w2 ⟨rfl, hb2⟩))
      go_ret3
      exact ⟨rfl, hb2⟩
    · rw [if_pos (.inr h1)]
      rw [hl] at h1
      clear h hb
      generalize fmtL zs = F at *
      have q : ((F : Int) == (n : Int)) = false := by simp; omega
      have q2 : ¬ (F : Int) = (n : Int) := by omega
      go_enter Try.func12, Try.ntmps12
      go_wp2_with (first | (go_at_call 45; refine HF.out.mono ?_; rintro e w1 ⟨hb1, rfl⟩; replace hb1 := hb1.below))
      go_ret3
      exact ⟨rfl, hb1⟩
theorem knew_bad (n : Int) (w : World) (h : n < 1 ∨ 65536 < n) :
    Calls Try.prog 13 #[.int .i64 n] w fun e w' => e = .returned (.tuple #[.pointer none, .int .i64 1]) ∧ w' = w := by
  by_cases h1 : n < 1
  · go_enter Try.func13, Try.ntmps13
    go_wp2
    go_ret2
    exact ⟨rfl, rfl⟩
  · have h2 : 65536 < n := by omega
    have h3 : n > 65536 := h2
    clear h
    go_enter Try.func13, Try.ntmps13
    go_wp2
    go_ret2
    exact ⟨rfl, rfl⟩
theorem knew_any (n : Nat) (w : World) (h1 : 1 ≤ n) (h2 : n ≤ 65536) :
    Calls Try.prog 13 #[.int .i64 n] w fun e w' => e = .returned (.tuple #[.pointer (some ⟨w.heap.size, 0, none⟩), .int .i64 0]) ∧ KAt w.heap.size w' w.heap.size (.slice none 0 0) ⟨n, [], 0, false⟩ ∧ Below w.heap.size w w' := by
  have d1 : ¬ (n : Int) < 1 := by omega
  have d2 : ¬ (n : Int) > 65536 := by omega
  go_enter Try.func13, Try.ntmps13
  go_wp2
  go_ret2
  exact ⟨rfl, ⟨Nat.le_refl _, heap_alloc_new _ _, World.ownsRow_nil _ _ _ _⟩, (Below.refl _ _).alloc (Nat.le_refl _) _⟩
end Go.Proofs.Ythhkennomnmjkaa
