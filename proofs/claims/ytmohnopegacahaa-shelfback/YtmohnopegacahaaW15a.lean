/- Layer 15, the program: is a file taken? -/
import Derived.Test.YtmohnopegacahaaV15e
namespace Go.Proofs.Ytmohnopegacahaa
open Go.RowKit
set_option maxHeartbeats 1000000
set_option maxRecDepth 100000
set_option linter.unusedVariables false

/-- does that stream lie on that file, beside which none of that mode may be? -/
def tkB (fp : Option Nat) (md : Int) (d : Sm) : Bool := lieB d fp && (decide (d.md ≠ 2) || decide (md ≠ 2))
/-- what isTaken's function holds -/
structure TkAt (w : World) (q1 q2 : Nat) (fp : Option Nat) (md : Int) : Prop where
  c1 : w.cell? ⟨q1, 0, none⟩ = some (ptrF fp)
  c2 : w.cell? ⟨q2, 0, none⟩ = some (.int .i64 md)
theorem tk1_any (d : Sm) (w : World) (hs : SBox w d) (fp : Option Nat) (md : Int) (h1 : d.f = true → IsF w d.g) (h2 : ∀ b, fp = some b → IsF w b) (q1 q2 : Nat) (ht : TkAt w q1 q2 fp md) :
    Calls Try.prog 58 #[.pointer (some ⟨d.k, 0, none⟩), .pointer (some ⟨q1, 0, none⟩), .pointer (some ⟨q2, 0, none⟩)] w fun e w' => e = .returned (.bool (tkB fp md d)) ∧ w' = w := by
  have HL := hidden (liesOn_any d w hs fp h1 h2)
  obtain ⟨c0, c1, c2, c3, c4, c5, c6, z0⟩ := hs.cells
  obtain ⟨t1, t2⟩ := ht
  clear hs h1 h2 c0 c1 c3 c4 c5 c6
  obtain ⟨PF, hPF⟩ : ∃ PF, ptrF fp = .pointer PF := ⟨_, rfl⟩
  rw [hPF] at HL t1
  unfold tkB
  generalize lieB d fp = LB at *
  clear hPF
  cases LB with
  | false =>
    go_enter Try.func58, Try.ntmps58
    go_wp2_with (first | (go_at_call 59; refine HL.out.mono ?_; rintro e w1 ⟨rfl, e1⟩; rw [e1]; clear e1) | fail)
    go_ret
    exact ⟨rfl, rfl⟩
  | true =>
    by_cases hm : d.md = 2
    · rw [hm] at c2
      rw [show decide (d.md ≠ 2) = false by simp [hm]]
      clear hm
      by_cases hm2 : md = 2
      · subst hm2
        go_enter Try.func58, Try.ntmps58
        go_wp2_with (first | (go_at_call 59; refine HL.out.mono ?_; rintro e w1 ⟨rfl, e1⟩; rw [e1]; clear e1) | fail)
        go_ret
        exact ⟨rfl, rfl⟩
      · have n2 : (md != 2) = true := bne_iff_ne.2 hm2
        rw [show decide (md ≠ 2) = true by simp [hm2]]
        clear hm2
        go_enter Try.func58, Try.ntmps58
        go_wp2_with (first | (go_at_call 59; refine HL.out.mono ?_; rintro e w1 ⟨rfl, e1⟩; rw [e1]; clear e1) | fail)
        go_ret
        exact ⟨rfl, rfl⟩
    · have n2 : (d.md != 2) = true := bne_iff_ne.2 hm
      rw [show decide (d.md ≠ 2) = true by simp [hm]]
      clear hm
      generalize d.md = M at *
      go_enter Try.func58, Try.ntmps58
      go_wp2_with (first | (go_at_call 59; refine HL.out.mono ?_; rintro e w1 ⟨rfl, e1⟩; rw [e1]; clear e1) | fail)
      go_ret
      exact ⟨rfl, rfl⟩
/-- the place of the first stream that is so, or -1 -/
def ixI (L : List Sm) (p : Sm → Bool) : Int := if L.any p = true then (L.findIdx p : Nat) else -1
theorem ixI_no {L : List Sm} {p : Sm → Bool} (h : ∀ i (hi : i < L.length), p L[i] = false) : ixI L p = -1 := by
  unfold ixI
  rw [if_neg]
  rw [List.any_eq_true]
  rintro ⟨d, hd, e⟩
  obtain ⟨i, hi, rfl⟩ := List.getElem_of_mem hd
  rw [h i hi] at e
  cases e
theorem ixI_at {L : List Sm} {p : Sm → Bool} (j : Nat) (hj : j < L.length) (h1 : p L[j] = true) (h : ∀ i, i < j → ∀ (hi : i < L.length), p L[i] = false) : ixI L p = j := by
  unfold ixI
  rw [if_pos (List.any_eq_true.2 ⟨_, List.getElem_mem hj, h1⟩), (List.findIdx_eq hj).2 ⟨h1, fun i hi => by rw [h i hi (by omega)]⟩]
theorem ixI_sign (L : List Sm) (p : Sm → Bool) : (L.any p = true ∧ 0 ≤ ixI L p) ∨ (L.any p = false ∧ ixI L p = -1) := by
  unfold ixI
  cases h : L.any p with
  | true => exact .inl ⟨rfl, by rw [if_pos rfl]; omega⟩
  | false => exact .inr ⟨rfl, by rw [if_neg (by simp)]⟩
set_option maxHeartbeats 4000000 in
theorem ixt_any {B g c : Nat} {L : List Sm} {w : World} (h : w.ownsRow B 76 1 (.slice (some ⟨g, 0, none⟩) L.length c) L.length (ptrsV L)) (q1 q2 : Nat) (p : Sm → Bool) (hp : ∀ d ∈ L, Calls Try.prog 58 #[.pointer (some ⟨d.k, 0, none⟩), .pointer (some ⟨q1, 0, none⟩), .pointer (some ⟨q2, 0, none⟩)] w fun e w' => e = .returned (.bool (p d)) ∧ w' = w) (hn : L.length ≤ 1000) :
    Calls Try.prog 53 #[.slice (some ⟨g, 0, none⟩) L.length c, .func (.func 58) #[] #[.pointer (some ⟨q1, 0, none⟩), .pointer (some ⟨q2, 0, none⟩)]] w fun e w' => e = .returned (.int .i64 (ixI L p)) ∧ w' = w := by
  have HC : Hid (∀ j (hj : j < L.length), w.cell? ⟨g, j, none⟩ = some (.pointer (some ⟨L[j].k, 0, none⟩))) := hidden (fun j hj => prow_cell h j hj)
  have HD : Hid (∀ j (hj : j < L.length), Calls Try.prog 58 #[.pointer (some ⟨L[j].k, 0, none⟩), .pointer (some ⟨q1, 0, none⟩), .pointer (some ⟨q2, 0, none⟩)] w fun e w' => e = .returned (.bool (p L[j])) ∧ w' = w) := hidden (fun j hj => hp _ (List.getElem_mem hj))
  have HNO : Hid ((∀ i (hi : i < L.length), p L[i] = false) → ixI L p = -1) := hidden ixI_no
  have HAT : Hid (∀ (j : Nat) (hj : j < L.length), p L[j] = true → (∀ i, i < j → ∀ (hi : i < L.length), p L[i] = false) → ixI L p = j) := hidden (fun j hj a b => ixI_at j hj a b)
  obtain ⟨IX, hIX⟩ : ∃ IX, ixI L p = IX := ⟨_, rfl⟩
  rw [hIX] at HNO HAT ⊢
  obtain ⟨N, hN⟩ : ∃ N, L.length = N := ⟨_, rfl⟩
  rw [hN]
  have HN := hidden hN
  rw [hN] at hn
  clear h hp hN hIX
  go_enter Try.func53, Try.ntmps53
  go_upto_region 2 with fail
  go_loopw [8] (fun i w' => ∃ j : Nat, j ≤ N ∧ i = .int .i64 j ∧ w' = w ∧ Hid (∀ i, i < j → ∀ (hi : i < L.length), p L[i] = false)) (fun i _ => N - (intOf i).toNat)
  case atStart => exact ⟨0, by omega, rfl, rfl, hidden (fun i hi => by omega)⟩
  case round =>
    obtain ⟨j, hj, rfl, rfl, HPR⟩ := hrel
    by_cases hlt : j < N
    · have hjl : j < L.length := by rw [HN.out]; exact hlt
      have l1 : (j : Int) < N := by omega
      have l2 : (0 : Int) ≤ j := by omega
      have c0 := HC.out j hjl
      have HDj := hidden (HD.out j hjl)
      obtain ⟨b, hb⟩ : ∃ b, p L[j] = b := ⟨_, rfl⟩
      rw [hb] at HDj
      have HB := hidden hb
      clear hb
      generalize L[j].k = KK at *
      cases b with
      | true =>
        have HE := hidden (HAT.out j hjl HB.out HPR.out)
        clear HC HD HNO HAT HPR HB
        go_wp2_with (first | (go_at_call 58; refine HDj.out.mono ?_; rintro e w2 ⟨rfl, e2⟩; rw [e2]; clear e2) | fail)
        go_ret
        exact ⟨by rw [HE.out]; rfl, rfl⟩
      | false =>
        have HP2 : Hid (∀ i, i < j + 1 → ∀ (hi : i < L.length), p L[i] = false) := hidden (fun i hi hi2 => by
          by_cases e : i = j
          · subst e; exact HB.out
          · exact HPR.out i (by omega) hi2)
        clear HC HD HNO HAT HPR HB
        go_wp2_with (first | (go_at_call 58; refine HDj.out.mono ?_; rintro e w2 ⟨rfl, e2⟩; rw [e2]; clear e2) | fail)
        go_roundw
        case rel => exact ⟨j + 1, by omega, by first | rfl | go_num, by first | rfl | trivial, HP2⟩
        case measure => simp [intOf]; omega
    · obtain rfl : j = N := by omega
      have l1 : ¬ ((j : Int) < (j : Int)) := by omega
      have HE := hidden (HNO.out (fun i hi => HPR.out i (by rw [← HN.out]; exact hi) hi))
      clear HC HD HNO HAT HPR
      go_wp2
      go_ret
      exact ⟨by rw [HE.out]; rfl, rfl⟩
theorem cont_any (v1 : Value) (q1 q2 : Nat) (IX : Int) (AN : Bool) (w : World) (HI : Hid (Calls Try.prog 53 #[v1, .func (.func 58) #[] #[.pointer (some ⟨q1, 0, none⟩), .pointer (some ⟨q2, 0, none⟩)]] w fun e w' => e = .returned (.int .i64 IX) ∧ w' = w)) (hs : (AN = true ∧ 0 ≤ IX) ∨ (AN = false ∧ IX = -1)) :
    Calls Try.prog 57 #[v1, .func (.func 58) #[] #[.pointer (some ⟨q1, 0, none⟩), .pointer (some ⟨q2, 0, none⟩)]] w fun e w' => e = .returned (.bool AN) ∧ w' = w := by
  rcases hs with ⟨rfl, hix⟩ | ⟨rfl, rfl⟩
  · go_enter Try.func57, Try.ntmps57
    go_wp2_with (first | (go_at_call 53; refine HI.out.mono ?_; rintro e w3 ⟨rfl, e3⟩; rw [e3]; clear e3) | fail)
    go_ret
    exact ⟨rfl, rfl⟩
  · go_enter Try.func57, Try.ntmps57
    go_wp2_with (first | (go_at_call 53; refine HI.out.mono ?_; rintro e w3 ⟨rfl, e3⟩; rw [e3]; clear e3) | fail)
    go_ret
    exact ⟨rfl, rfl⟩
/-- is the file taken for that mode? -/
def takenB (s : Sh) (fp : Option Nat) (md : Int) : Bool := s.S.any (tkB fp md)
theorem taken_any {B m : Nat} {w : World} {s : Sh} (h : ShAt B w m s) (ok : OkS s) (fp : Option Nat) (hfp : ∀ b, fp = some b → IsF w b) (md : Int) :
    Calls Try.prog 42 #[.pointer (some ⟨m, 0, none⟩), ptrF fp, .int .i64 md] w fun e w' => e = .returned (.bool (takenB s fp md)) ∧ Below w.heap.size w w' := by
  have hml := h.lt
  have hb : Below w.heap.size w ((w.alloc (.cells #[ptrF fp] 72)).alloc (.cells #[.int .i64 md] 3)) := ((Below.refl _ _).alloc (Nat.le_refl _) _).alloc (by simp) _
  have h2 := h.later hb
  have c3 := h2.cells.2.2.2.1
  have HB := hidden hb
  have htk : TkAt ((w.alloc (.cells #[ptrF fp] 72)).alloc (.cells #[.int .i64 md] 3)) w.heap.size (w.heap.size + 1) fp md := by
    have a1 := heap_alloc_new w (.cells #[ptrF fp] 72)
    have a2 := heap_alloc_new (w.alloc (.cells #[ptrF fp] 72)) (.cells #[.int .i64 md] 3)
    have b2 : Below (w.heap.size + 1) (w.alloc (.cells #[ptrF fp] 72)) ((w.alloc (.cells #[ptrF fp] 72)).alloc (.cells #[.int .i64 md] 3)) := (Below.refl _ _).alloc (by simp) _
    rw [World.size_alloc] at a2
    refine ⟨?_, ?_⟩
    · unfold World.cell?
      rw [b2.block w.heap.size (by omega), a1]; rfl
    · unfold World.cell?
      rw [a2]; rfl
  have HCF : Hid (Calls Try.prog 57 #[s.sv, .func (.func 58) #[] #[.pointer (some ⟨w.heap.size, 0, none⟩), .pointer (some ⟨w.heap.size + 1, 0, none⟩)]] ((w.alloc (.cells #[ptrF fp] 72)).alloc (.cells #[.int .i64 md] 3)) fun e w' => e = .returned (.bool (takenB s fp md)) ∧ w' = ((w.alloc (.cells #[ptrF fp] 72)).alloc (.cells #[.int .i64 md] 3))) := hidden (by
    generalize ((w.alloc (.cells #[ptrF fp] 72)).alloc (.cells #[.int .i64 md] 3)) = w2 at *
    have hsz := hb.size
    rcases h2.row.2 with ⟨h3, h4⟩ | ⟨g, cap, cur, hv, _⟩
    · have hS : s.S = [] := List.eq_nil_of_length_eq_zero h4
      rw [h3]
      have : takenB s fp md = false := by unfold takenB; rw [hS]; rfl
      rw [this]
      exact contains_nil _ _
    · have hr := h2.row
      rw [hv] at hr ⊢
      have hn := ok.few
      have hp : ∀ d ∈ s.S, Calls Try.prog 58 #[.pointer (some ⟨d.k, 0, none⟩), .pointer (some ⟨w.heap.size, 0, none⟩), .pointer (some ⟨w.heap.size + 1, 0, none⟩)] w2 fun e w' => e = .returned (.bool (tkB fp md d)) ∧ w' = w2 := fun d hd => by
        refine tk1_any d w2 (h2.ss d hd).2 fp md (fun q => ?_) (fun b e => (hfp b e).later hb) w.heap.size (w.heap.size + 1) htk
        obtain ⟨f, hf, e⟩ := (ok.on d hd).1 q
        rw [← e]
        exact ⟨_, (h2.fs f hf).box⟩
      exact cont_any _ _ _ (ixI s.S (tkB fp md)) _ w2 (hidden (ixt_any hr w.heap.size (w.heap.size + 1) (tkB fp md) hp (by omega))) (ixI_sign s.S (tkB fp md)))
  clear h h2 ok hfp hb htk
  obtain ⟨PF, hPF⟩ : ∃ PF, ptrF fp = .pointer PF := ⟨_, rfl⟩
  rw [hPF] at HB c3 HCF ⊢
  clear hPF
  go_enter Try.func42, Try.ntmps42
  go_upto_region 1 with fail
  generalize (w.alloc (.cells #[.pointer PF] 72)).alloc (.cells #[.int .i64 md] 3) = w2 at *
  go_wp2_with (first | (go_at_call 57; refine HCF.out.mono ?_; rintro e w3 ⟨rfl, e3⟩; rw [e3]; clear e3) | fail)
  go_ret
  exact ⟨rfl, HB.out⟩
end Go.Proofs.Ytmohnopegacahaa
