/- Layer 15, the program: one stream less. -/
import Derived.Test.YtmohnopegacahaaS15k
namespace Go.Proofs.Ytmohnopegacahaa
open Go.RowKit
set_option maxHeartbeats 1000000
set_option maxRecDepth 100000
set_option linter.unusedVariables false

theorem run_clearP (w : World) (g o c : Nat) (cur : Array Value) (hg : w.heap[g]? = some (.cells cur 76 (0, 0))) (hfit : o + 1 ≤ cur.size) :
    ∃ w', (∀ ty, (Builtin.clear_ #[68] ty #[.slice (some ⟨g, o, none⟩) 1 c]).run Try.prog w = .ok (.tuple #[]) w') ∧ (∃ cur' : Array Value, w'.heap[g]? = some (.cells cur' 76 (0, 0)) ∧ cur'.size = cur.size ∧ cur'.toList.take o = cur.toList.take o) ∧ w.grownBy w' (some g) := by
  have hv : ∀ w, (zeroValue 76).run Try.prog w = .ok (.pointer none) w := fun w => by kernel_rfl
  obtain ⟨cs, hcs⟩ : ∃ cs, (Builtin.zeroCells (Value.pointer none).cells 1).toList = cs := ⟨_, rfl⟩
  have hzs : (Value.pointer none).cells.size = 1 := rfl
  have hl : cs.length = 1 := by rw [← hcs]; simp [Builtin.zeroCells, hzs]
  have h1 : ∀ v ∈ cs, v.oneCell' = true := by
    intro v hv
    rw [← hcs] at hv
    simp only [Builtin.zeroCells, Array.toList_map, List.mem_map, hzs] at hv
    obtain ⟨i, _, rfl⟩ := hv
    rw [Nat.mod_one]
    rfl
  have hst := run_storeCells_at Try.prog g o 76 cs 0 cur w hg (by simpa [hl] using hfit) h1
  refine ⟨w.setRow g (splice cur.toList o cs).toArray, fun ty => ?_, ⟨(splice cur.toList o cs).toArray, setRow_heap w g cur _ _ _ hg, ?_, ?_⟩, ⟨rfl, rfl, rfl, by simp [World.setRow], fun k _ hk => setRow_other w g k _ (fun e => hk (by rw [e]))⟩⟩
  · simp [Builtin.clear_, run_underlying Try.underlying68, hv, hcs, hst, splice]
  · simp only [List.size_toArray]
    rw [length_splice _ _ _ (by rw [hl]; simpa using hfit)]
    simp
  · simp only [splice]
    rw [List.take_append_of_le_length (by rw [List.length_take]; simp; omega), List.take_of_length_le (by rw [List.length_take]; omega)]
/-- a variable that holds a stream -/
def QAt (w : World) (q o : Nat) : Prop := w.heap[q]? = some (.cells #[.pointer (some ⟨o, 0, none⟩)] 76 (0, 0))
def IsS (w : World) (k : Nat) : Prop := ∃ cs, w.heap[k]? = some (.cells cs 80 (0, 0))
theorem SBox.isS {w : World} {d : Sm} (h : SBox w d) : IsS w d.k := ⟨_, h⟩
theorem info_st : (Try.prog.info? 80).map (·.size) = some 7 := by kernel_rfl
theorem eql_ss {w : World} {a b : Nat} (ha : IsS w a) (hb : IsS w b) : (binOp .eql 76 (.pointer (some ⟨a, 0, none⟩)) (.pointer (some ⟨b, 0, none⟩))).run Try.prog w = .ok (.bool (decide (a = b))) w := by
  obtain ⟨j, hj, hjs⟩ := Option.map_eq_some_iff.1 info_st
  by_cases h : a = b
  · subst h
    simpa using run_eql_ptr_same (P := Try.prog) w ⟨a, 0, none⟩ Try.underlying76 hj
  · obtain ⟨va, ha⟩ := ha
    obtain ⟨vb, hb⟩ := hb
    simpa [h] using run_eql_ptr_other (P := Try.prog) w (a := ⟨a, 0, none⟩) (b := ⟨b, 0, none⟩) Try.underlying76 hj (by rw [hjs]; decide) (fun e => h (by injection e)) ha hb
theorem cl1_any {w : World} {k q o : Nat} (hq : QAt w q o) (hk : IsS w k) (ho : IsS w o) (b : Bool) (hb : decide (k = o) = b) : Calls Try.prog 33 #[.pointer (some ⟨k, 0, none⟩), .pointer (some ⟨q, 0, none⟩)] w fun e w' => e = .returned (.bool b) ∧ w' = w := by
  have c0 : w.cell? ⟨q, 0, none⟩ = some (.pointer (some ⟨o, 0, none⟩)) := by unfold QAt at hq; simp [World.cell?, hq]
  have he := eql_ss hk ho
  rw [hb] at he
  clear hq hk ho hb
  go_enter Try.func33, Try.ntmps33
  go_wp2
  go_ret
  exact ⟨rfl, rfl⟩
theorem ixf_any {B g c q o i0 : Nat} {L : List Sm} {w : World} (h : w.ownsRow B 76 1 (.slice (some ⟨g, 0, none⟩) L.length c) L.length (ptrsV L)) (hq : QAt w q o) (hs : ∀ d ∈ L, IsS w d.k) (hi0 : i0 < L.length) (ho : L[i0].k = o) (hd : ∀ j (hj : j < L.length), j ≠ i0 → L[j].k ≠ o) (hn : L.length ≤ 1000) :
    Calls Try.prog 53 #[.slice (some ⟨g, 0, none⟩) L.length c, .func (.func 33) #[] #[.pointer (some ⟨q, 0, none⟩)]] w fun e w' => e = .returned (.int .i64 i0) ∧ w' = w := by
  have HC : Hid (∀ j (hj : j < L.length), w.cell? ⟨g, j, none⟩ = some (.pointer (some ⟨L[j].k, 0, none⟩))) := hidden (fun j hj => prow_cell h j hj)
  have hso : IsS w o := by rw [← ho]; exact hs _ (List.getElem_mem hi0)
  have HD : Hid (∀ j (hj : j < L.length), Calls Try.prog 33 #[.pointer (some ⟨L[j].k, 0, none⟩), .pointer (some ⟨q, 0, none⟩)] w fun e w' => e = .returned (.bool (decide (j = i0))) ∧ w' = w) := hidden (fun j hj => cl1_any hq (hs _ (List.getElem_mem hj)) hso _ (by
    by_cases e : j = i0
    · subst e; simp [ho]
    · simp [e, hd j hj e]))
  obtain ⟨N, hN⟩ : ∃ N, L.length = N := ⟨_, rfl⟩
  rw [hN]
  have HN := hidden hN
  rw [hN] at hn hi0
  clear h hq hs ho hd hso hN
  go_enter Try.func53, Try.ntmps53
  go_upto_region 2 with fail
  go_loopw [8] (fun i w' => ∃ j : Nat, j ≤ i0 ∧ i = .int .i64 j ∧ w' = w) (fun i _ => N - (intOf i).toNat)
  case atStart => exact ⟨0, by omega, rfl, rfl⟩
  case round =>
    obtain ⟨j, hj, rfl, rfl⟩ := hrel
    have hjl : j < L.length := by rw [HN.out]; omega
    have l1 : (j : Int) < N := by omega
    have l2 : (0 : Int) ≤ j := by omega
    have c0 := HC.out j hjl
    have HDj := hidden (HD.out j hjl)
    generalize L[j].k = KK at *
    by_cases e : j = i0
    · rw [decide_eq_true e] at HDj
      subst e
      go_wp2_with (first | (go_at_call 33; refine HDj.out.mono ?_; rintro e w2 ⟨rfl, e2⟩; rw [e2]; clear e2) | fail)
      go_ret
      exact ⟨rfl, rfl⟩
    · rw [decide_eq_false e] at HDj
      go_wp2_with (first | (go_at_call 33; refine HDj.out.mono ?_; rintro e w2 ⟨rfl, e2⟩; rw [e2]; clear e2) | fail)
      go_roundw
      case rel => exact ⟨j + 1, by omega, by first | rfl | go_num, by first | rfl | trivial⟩
      case measure => simp [intOf]; omega
def DlR (B : Nat) (w : World) (g c : Nat) (K : List Sm) (e : Ending) (w' : World) : Prop := e = .returned (.slice (some ⟨g, 0, none⟩) K.length c) ∧ w'.ownsRow B 76 1 (.slice (some ⟨g, 0, none⟩) K.length c) K.length (ptrsV K) ∧ Fm w w' (fun k => k = g) (fun k => k = g)
theorem erase_at {L : List Sm} {i0 i : Nat} (h : i0 ≤ i) (hi : i + 1 < L.length) : (L.eraseIdx i0)[i]? = some L[i + 1] := by
  rw [List.getElem?_eraseIdx, if_neg (by omega), List.getElem?_eq_getElem hi]
set_option maxHeartbeats 8000000 in
theorem delf_any {B g c q o i0 : Nat} {L : List Sm} {w : World} (h : w.ownsRow B 76 1 (.slice (some ⟨g, 0, none⟩) L.length c) L.length (ptrsV L)) (hq : QAt w q o) (hqg : q ≠ g) (hs : ∀ d ∈ L, IsS w d.k) (hi0 : i0 < L.length) (ho : L[i0].k = o) (hd : ∀ j (hj : j < L.length), j ≠ i0 → L[j].k ≠ o) (hn : L.length ≤ 1000) :
    Calls Try.prog 32 #[.slice (some ⟨g, 0, none⟩) L.length c, .func (.func 33) #[] #[.pointer (some ⟨q, 0, none⟩)]] w (DlR B w g c (L.eraseIdx i0)) := by
  have HIX := hidden (ixf_any h hq hs hi0 ho hd hn)
  have hso : IsS w o := by rw [← ho]; exact hs _ (List.getElem_mem hi0)
  have hgt : tyAt w g = some 76 := ty_row h rfl
  have HKP : Hid (∀ w1, Fm w w1 (fun k => k = g) (fun k => k = g) → QAt w1 q o ∧ ∀ k, IsS w k → IsS w1 k) := hidden (fun w1 f => ⟨by unfold QAt at hq ⊢; rw [f.block q (Array.getElem?_eq_some_iff.1 hq).1 hqg]; exact hq, fun k hk => by
    obtain ⟨cs, e⟩ := hk
    refine ⟨cs, ?_⟩
    rw [f.block k (Array.getElem?_eq_some_iff.1 e).1 (fun q => by rw [q] at e; rw [ty_box e] at hgt; exact absurd hgt (by decide))]
    exact e⟩)
  have HDROP : Hid (∀ w1, Fm w w1 (fun k => k = g) (fun k => k = g) → ∀ j (hj : j < L.length), j ≠ i0 → Calls Try.prog 33 #[.pointer (some ⟨L[j].k, 0, none⟩), .pointer (some ⟨q, 0, none⟩)] w1 fun e w' => e = .returned (.bool false) ∧ w' = w1) := hidden (fun w1 f j hj hne => by
    obtain ⟨k1, k2⟩ := HKP.out w1 f
    exact cl1_any k1 (k2 _ (hs _ (List.getElem_mem hj))) (k2 _ hso) false (by simp [hd j hj hne]))
  have HROW := hidden h
  have hBg : B ≤ g := (h.lt g rfl).1
  have hlc : L.length ≤ c ∧ c ≤ 9223372036854775807 := by
    rcases h.2 with ⟨q, _⟩ | ⟨g', cap, cur, q, q2, q3, q4, q5, _⟩
    · cases q
    · simp only [Value.slice.injEq] at q
      rw [q.2.2]
      exact ⟨q4, by simp only [maxLen] at q5; omega⟩
  obtain ⟨hlc1, hlc2⟩ := hlc
  have HFI : Hid (∀ w', w'.ownsRow B 76 1 (.slice (some ⟨g, 0, none⟩) (L.eraseIdx i0).length c) (L.eraseIdx i0).length (ptrsV (L.eraseIdx i0)) → Fm w w' (fun k => k = g) (fun k => k = g) → DlR B w g c (L.eraseIdx i0) (.returned (.slice (some ⟨g, 0, none⟩) (L.eraseIdx i0).length c)) w') := hidden (fun w' a b => ⟨rfl, a, b⟩)
  generalize hPQ : DlR B w g c (L.eraseIdx i0) = PQ at *
  obtain ⟨N, hN⟩ : ∃ N, L.length = N := ⟨_, rfl⟩
  have HN := hidden hN
  have HEL : Hid ((L.eraseIdx i0).length = N - 1) := hidden (by rw [List.length_eraseIdx_of_lt hi0, hN])
  have HTK : Hid (L.take i0 = (L.eraseIdx i0).take i0) := hidden (by rw [List.eraseIdx_eq_take_drop_succ, List.take_left' (by rw [List.length_take]; omega)])
  rw [hN] at HIX hn hlc1 hi0
  rw [hN]
  clear h hN hPQ hq hs ho hd hso hgt HKP
  go_enter Try.func32, Try.ntmps32
  have q1 : ((i0 : Int) == -1) = false := by rw [beq_eq_false_iff_ne]; omega
  go_upto_region 5 with (first | (go_at_call 53; refine HIX.out.mono ?_; rintro e w1 ⟨rfl, e1⟩; rw [e1]; clear e1) | fail)
  go_loopw [5, 6] (fun a b w' => ∃ (i : Nat) (M : List Sm), i0 ≤ i ∧ i + 1 ≤ N ∧ a = .int .i64 i ∧ b = .int .i64 ((i : Int) + 1) ∧ Hid (M.length = N) ∧ Hid (M.take i = (L.eraseIdx i0).take i) ∧ Hid (∀ k (hk : k < L.length) (hm : k < M.length), i + 1 ≤ k → M[k] = L[k]) ∧ Hid (w'.ownsRow B 76 1 (.slice (some ⟨g, 0, none⟩) M.length c) M.length (ptrsV M)) ∧ Hid (Fm w w' (fun k => k = g) (fun k => k = g))) (fun _ b _ => N - (intOf b).toNat)
  case atStart => exact ⟨i0, L, by omega, by omega, rfl, by first | rfl | go_num, HN, HTK, hidden (fun k hk hm q => rfl), HROW, hidden (Fm.same (Below.refl _ _))⟩
  case round =>
    clear HROW HTK HIX
    obtain ⟨i, M, hij, hj, rfl, rfl, HML, HMT, HMD, HO, HF⟩ := hrel
    by_cases hlt : i + 1 < N
    · have hjM : i + 1 < M.length := by rw [HML.out]; exact hlt
      have hjL : i + 1 < L.length := by rw [HN.out]; exact hlt
      have hiM : i < M.length := by rw [HML.out]; omega
      have l1 : (i : Int) + 1 < N := by omega
      have l2 : (0 : Int) ≤ (i : Int) + 1 := by omega
      have l3 : (i : Int) < N := by omega
      have l4 : (0 : Int) ≤ i := by omega
      have c0 := prow_cell HO.out (i + 1) hjM
      have c1 := prow_cell HO.out i hiM
      rw [HMD.out (i + 1) hjL hjM (Nat.le_refl _)] at c0
      have z0 : wr.frozen? ⟨g, i, none⟩ = false := by
        rcases HO.out.2 with ⟨q, _⟩ | ⟨g', cap, cur, q, _, q3, _⟩
        · cases q
        · simp only [Value.slice.injEq, Option.some.injEq, Addr.mk.injEq, and_true] at q
          obtain ⟨rfl, _⟩ := q
          simp [World.frozen?, q3]
      have HDR := hidden (HDROP.out wr HF.out (i + 1) hjL (by omega))
      have HO3 : Hid ((wr.setCell ⟨g, i, none⟩ (.pointer (some ⟨L[i + 1].k, 0, none⟩))).ownsRow B 76 1 (.slice (some ⟨g, 0, none⟩) (M.set i L[i + 1]).length c) (M.set i L[i + 1]).length (ptrsV (M.set i L[i + 1]))) := hidden (by
        rw [List.length_set, show ptrsV (M.set i L[i + 1]) = (ptrsV M).set i (.pointer (some ⟨L[i + 1].k, 0, none⟩)) by simp [ptrsV, List.map_set]]
        exact own_set1 HO.out i _)
      have HF3 : Hid (Fm w (wr.setCell ⟨g, i, none⟩ (.pointer (some ⟨L[i + 1].k, 0, none⟩))) (fun k => k = g) (fun k => k = g)) := hidden (HF.out.set g i _ rfl)
      have HNI : Hid ((M.set i L[i + 1]).take (i + 1) = (L.eraseIdx i0).take (i + 1)) := hidden (by
        rw [List.take_add_one, List.take_add_one, erase_at hij hjL, List.getElem?_eq_getElem (by rw [List.length_set]; exact hiM), List.getElem_set_self, List.take_set_of_le (Nat.le_refl _), HMT.out])
      have HMD2 : Hid (∀ k (hk : k < L.length) (hm : k < (M.set i L[i + 1]).length), i + 1 + 1 ≤ k → (M.set i L[i + 1])[k] = L[k]) := hidden (fun k hk hm q => by rw [List.getElem_set_ne (by omega)]; exact HMD.out k hk (by rw [List.length_set] at hm; exact hm) (by omega))
      have HML2 : Hid ((M.set i L[i + 1]).length = N) := hidden (by rw [List.length_set]; exact HML.out)
      generalize M.set i L[i + 1] = M2 at *
      generalize L[i + 1].k = KK at *
      have HP1 : Hid (w = w) := hidden rfl
      clear HO HF HMT HMD
      go_wp2_with (first | (go_at_call 33; refine HDR.out.mono ?_; rintro e w2 ⟨rfl, e2⟩; rw [e2]; clear e2) | fail)
      go_roundw
      case rel => exact ⟨i + 1, M2, by omega, by omega, by first | rfl | go_num, by first | rfl | go_num, HML2, HNI, HMD2, HO3, HF3⟩
      case measure => simp [intOf]; omega
    · have hiN : i + 1 = N := by omega
      have l1 : ¬ ((i : Int) + 1 < N) := by omega
      obtain ⟨cur, hcur, hcs, hct⟩ : ∃ cur : Array Value, wr.heap[g]? = some (.cells cur 76 (0, 0)) ∧ cur.size = c * 1 ∧ cur.toList.take (M.length * 1) = ptrsV M := by
        rcases HO.out.2 with ⟨q, _⟩ | ⟨g', cap, cur, q, _, q3, _, _, q6, q7⟩
        · cases q
        · simp only [Value.slice.injEq, Option.some.injEq, Addr.mk.injEq, and_true] at q
          obtain ⟨rfl, _, rfl⟩ := q
          exact ⟨cur, q3, q6, q7⟩
      obtain ⟨W9, hclr, ⟨cur', k1, k2, k3⟩, hgr⟩ := run_clearP wr g i (c - i) cur hcur (by rw [hcs]; omega)
      have HFIN : Hid (PQ (.returned (.slice (some ⟨g, 0, none⟩) i c)) W9) := hidden (by
        have hML := HML.out
        have he : L.eraseIdx i0 = M.take i := by rw [HMT.out, List.take_of_length_le (by rw [HEL.out]; omega)]
        have hle : (L.eraseIdx i0).length = i := by rw [HEL.out]; omega
        have hfm : Fm wr W9 (fun k => k = g) (fun k => k = g) := ⟨hgr.os, hgr.tape, hgr.output, hgr.size, fun k hk hne => hgr.block k hk (fun e => hne (Option.some.inj e)), fun k hk => .inl hk⟩
        have := HFI.out W9 ⟨by rw [hle]; unfold ptrsV; rw [List.length_map, hle, Nat.mul_one], .inr ⟨g, c, cur', by rw [hle], hBg, k1, by rw [hle]; omega, by unfold maxLen; omega, by rw [k2, hcs], by
          rw [hle, Nat.mul_one, k3, he]
          have h2 : cur.toList.take M.length = ptrsV M := by simpa using hct
          have h3 := congrArg (List.take i) h2
          rw [List.take_take, Nat.min_eq_left (by omega)] at h3
          rw [h3]
          unfold ptrsV
          rw [List.map_take]⟩⟩ (HF.out.trans hfm)
        rwa [hle] at this)
      have d1 : ¬ c = i := by omega
      have d2 : (i : Int) ≤ (N : Int) := by omega
      have d3 : i ≤ N := by omega
      have d4 : (0 : Int) ≤ (i : Int) := by omega
      have d5 : (i : Int) ≤ (c : Int) := by omega
      have d6 : N - i = 1 := by omega
      clear hcur hcs hct k1 k2 k3 hgr HO HF HMT HMD HFI HDROP HEL
      go_wp2
      exact HFIN.out
end Go.Proofs.Ytmohnopegacahaa
