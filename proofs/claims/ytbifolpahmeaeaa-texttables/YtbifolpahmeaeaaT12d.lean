/- Layer 12, the document: the way to a character. -/
import Derived.Test.YtbifolpahmeaeaaT12a
import Derived.Test.YtbifolpahmeaeaaR12k
namespace Go.Proofs.Ytbifolpahmeaeaa
open Go.RowKit
set_option maxHeartbeats 1000000
set_option maxRecDepth 100000
set_option linter.unusedVariables false

theorem made0g (w : World) (g B : Nat) (hg : g = w.heap.size) (hB : B ≤ w.heap.size) : (w.alloc (.cells #[] 5)).ownsRow B 5 1 (.slice (some ⟨g, 0, none⟩) 0 0) 0 (bytesV []) := by
  subst hg
  exact own_base (made0 w) hB
theorem al_get1 (w : World) (c1 c2 : Obj) : ((w.alloc c1).alloc c2).heap[w.heap.size]? = some c1 := by
  have hb : Below (w.alloc c1).heap.size (w.alloc c1) ((w.alloc c1).alloc c2) := (Below.refl _ _).alloc (Nat.le_refl _) _
  rw [hb.block w.heap.size (by simp)]
  exact heap_alloc_new w c1
theorem al_get2 (w : World) (c1 c2 : Obj) : ((w.alloc c1).alloc c2).heap[w.heap.size + 1]? = some c2 := by
  have h := heap_alloc_new (w.alloc c1) c2
  have e : (w.alloc c1).heap.size = w.heap.size + 1 := by simp
  rwa [e] at h
theorem rd_heap {w : World} {g : Nat} {z : Int} (h : w.heap[g]? = some (.cells #[.int .u8 z] 5 (0, 0))) : Reads w (some ⟨g, 0, none⟩) 1 1 [z] := by
  refine ⟨rfl, Nat.le_refl _, .inr ⟨_, rfl, fun i hi => ?_⟩⟩
  have : i = 0 := by omega
  subst this
  simp [World.cell?, h, Addr.add]
theorem step_appF {w : World} {ops : Array Oper} {o : Oper} {a : Act} {K : Act → World → Prop} {Q : Exit → Act → World → Prop} {E : Prop} (hgd : o.guard = none) (s x : Operand)
    (ho : o.op = .call { callee := .builtin .append, args := #[s, x], argTypes := #[25, 25] })
    (base g n c m c0 : Nat) (sa : Option Addr) (zs ds : List Int) (hs : a.eval s = .slice (some ⟨g, 0, none⟩) n c) (hx : a.eval x = .slice sa m c0) (hown : w.ownsRow base 5 1 (.slice (some ⟨g, 0, none⟩) n c) n (bytesV zs)) (hr : Reads w sa m c0 ds) (h63 : n + m ≤ 4294967296) (hbase : base ≤ w.heap.size) (N : Nat) (hN : n + m = N) (Z : List Int) (hZ : zs ++ ds = Z)
    (h : ∀ g' c' w', Hid (w'.ownsRow base 5 1 (.slice (some ⟨g', 0, none⟩) N c') N (bytesV Z)) → Hid (Below base w w') → Hid (Fm w w' (fun k => k = g) (fun k => k = g')) → K (a.put o.dst (.slice (some ⟨g', 0, none⟩) N c')) w') :
    if Region.wanted o (yielded ops a.tmps) = true then Oper.wp Try.prog o a w K Q else E := by
  subst hN hZ
  have hw : Region.wanted o (yielded ops a.tmps) = true := by simp [Region.wanted, hgd]
  rw [if_pos hw]
  obtain ⟨g', c', w', hrun, h1, h2⟩ := app_reads base g n c m c0 sa zs ds w hown hr h63 hbase
  unfold Oper.wp
  simp [execOp, ho, resolve, invoke, builtin, hs, hx, hrun, Result.andThen]
  refine h g' c' w' h1 (h2.below hbase (fun k e => (hown.lt k e).1)) ?_
  have f := h2
  exact f.to (fun k e => by simp only [Value.ownBlock, Option.some.injEq] at e; exact e.symm) (fun k e => .inr (by subst e; rfl))
def WayR (w : World) (f : Nat) (B : List Int) (l : List Nat) (c : Nat) (r : Ending) (w' : World) : Prop :=
  ∃ sa m cc, r = .returned (.tuple #[.slice sa m cc, .bool (decide (c ∈ l))]) ∧ (c ∈ l → Reads w' sa m cc (B ++ (way f (l.idxOf c) l.length).map (fun b : Nat => (b : Int))) ∧ m ≤ B.length + f) ∧ Below w.heap.size w w'
set_option maxHeartbeats 16000000 in
theorem rway_any : ∀ (f : Nat) (ba : Option Addr) (bn bc : Nat) (B : List Int) (a : Option Addr) (n c : Nat) (l : List Nat) (X : Nat) (w : World), n ≤ f → n ≤ c → c ≤ 9223372036854775807 → VRow w a n l → n ≤ 1000 → Reads w ba bn bc B → bn + n ≤ 100000 → X < 4294967296 →
    Calls Try.prog 27 #[.slice ba bn bc, .slice a n c, .int .u32 X] w (WayR w f B l X)
  | f, ba, bn, bc, B, a, n, c, l, X, w, hf, hcp, hcm, h, hn, hr, hbn, hX => by
    have hln := h.ln
    have hBl := hr.1
    by_cases h0 : n = 0
    · subst h0
      have el : l = [] := List.length_eq_zero_iff.1 hln
      subst el
      have HFIN : Hid (WayR w f B [] X (.returned (.tuple #[.slice ba bn bc, .bool false])) w) := hidden ⟨ba, bn, bc, by simp, fun q => by simp at q, Below.refl _ _⟩
      generalize WayR w f B [] X = PQ at *
      clear h hln hr
      go_enter Try.func27, Try.ntmps27
      go_wp2
      exact HFIN.out
    · obtain ⟨f, rfl⟩ : ∃ f', f = f' + 1 := ⟨f - 1, by omega⟩
      obtain ⟨b, o, ha, hc⟩ := h.cells 0 (by omega)
      by_cases h1 : n = 1
      · subst h1
        obtain ⟨Y, rfl⟩ : ∃ Y, l = [Y] := List.length_eq_one_iff.1 hln
        subst ha
        have hc' : w.cell? ⟨b, o, none⟩ = some (.int .u32 (Y : Nat)) := hc
        obtain ⟨D, hD⟩ : ∃ D, ((Y : Int) == (X : Int)) = D := ⟨_, rfl⟩
        have HFIN : Hid (∀ w', Dr w w' → WayR w (f + 1) B [Y] X (.returned (.tuple #[.slice ba bn bc, .bool D])) w') := hidden (fun w' hd => by
          refine ⟨ba, bn, bc, ?_, fun q => ?_, hd.below⟩
          · rw [← hD]
            by_cases e : Y = X
            · simp [e]
            · have e2 : ¬ X = Y := fun q => e q.symm
              have e3 : ((Y : Int) == (X : Int)) = false := by simp; omega
              simp [e2, e3]
          · have hw0 : way (f + 1) ([Y].idxOf X) [Y].length = [] := by unfold way; rw [if_pos (by simp)]
            rw [hw0, List.map_nil, List.append_nil]
            exact ⟨hr.later hd.below, by omega⟩)
        generalize WayR w (f + 1) B [Y] X = PQ at *
        clear h hln hr hc hBl
        go_enter Try.func27, Try.ntmps27
        go_wp2
        go_quiet (fail)
        all_goals (try go_wp2)
        exact HFIN.out _ ((Dr.refl _).more _)
      · obtain ⟨M2, hM2⟩ : ∃ M2 : Nat, M2 = n / 2 := ⟨_, rfl⟩
        have hlt : (l.take M2).length = M2 := by rw [List.length_take]; omega
        have hld : (l.drop M2).length = n - M2 := by rw [List.length_drop]; omega
        have hsp : l.take M2 ++ l.drop M2 = l := List.take_append_drop M2 l
        subst ha
        have hq : (n : Int).tdiv 2 = (M2 : Int) := by rw [Int.tdiv_eq_ediv_of_nonneg (by omega)]; omega
        have q1 : ((n : Int) == 0) = false := by simp; omega
        have q2 : ((n : Int) == 1) = false := by simp; omega
        have q3 : M2 ≤ n := by omega
        have q4 : M2 ≤ c := by omega
        have q5 : ¬ c = M2 := by omega
        have HRR := hidden hr
        obtain ⟨N1, hN1⟩ : ∃ N1, bn + 1 = N1 := ⟨_, rfl⟩
        have HN1 := hidden hN1
        have hmem : ∀ q : X ∈ l.take M2, l.idxOf X = (l.take M2).idxOf X ∧ (l.take M2).idxOf X < M2 := fun q => by
          have hq := List.idxOf_lt_length_of_mem q
          rw [hlt] at hq
          refine ⟨?_, hq⟩
          conv => lhs; rw [← hsp]
          rw [List.idxOf_append, if_pos q]
        have hmem2 : ∀ q : ¬ X ∈ l.take M2, l.idxOf X = M2 + (l.drop M2).idxOf X := fun q => by
          conv => lhs; rw [← hsp]
          rw [List.idxOf_append, if_neg q, hlt]
          omega
        have hall : X ∈ l ↔ X ∈ l.take M2 ∨ X ∈ l.drop M2 := by
          conv => lhs; rw [← hsp]
          exact List.mem_append
        have i1 : (0 : Int) ≤ (M2 : Int) := by omega
        have i2 : (M2 : Int) ≤ (c : Int) := by omega
        have i3 : (M2 : Int) ≤ (n : Int) := by omega
        have i4 : (n : Int) / 2 = (M2 : Int) := by omega
        have i5 : IntKind.i64.wrap (M2 : Int) = (M2 : Int) := by rw [IntKind.wrap_i64]; omega
        have i6 : ((M2 : Int)).toNat = M2 := by omega
        obtain ⟨DR, hDR⟩ : ∃ DR, decide (X ∈ l.drop M2) = DR := ⟨_, rfl⟩
        have HR : Hid (¬ X ∈ l.take M2 → ∀ w9, Below w.heap.size w w9 → ∀ (g7 c7 : Nat) (w7 : World), w7.ownsRow w9.heap.size 5 1 (.slice (some ⟨g7, 0, none⟩) N1 c7) N1 (bytesV (B ++ [1])) → Below w9.heap.size w9 w7 → Calls Try.prog 27 #[.slice (some ⟨g7, 0, none⟩) N1 c7, .slice (some ⟨b, o + M2, none⟩) (n - M2) (c - M2), .int .u32 X] w7 fun r w' => ∃ sa m cc, r = .returned (.tuple #[.slice sa m cc, .bool DR]) ∧ Hid (WayR w (f + 1) B l X (.returned (.tuple #[.slice sa m cc, .bool DR])) w')) := hidden (fun hno w9 hb9 g7 c7 w7 h7 hb7 => by
          have hbt : Below w.heap.size w w7 := hb9.trans (hb7.mono hb9.size)
          refine (rway_any f _ N1 c7 _ _ (n - M2) (c - M2) _ X w7 (by omega) (by omega) (by omega) ((h.later hbt).sub b o M2 rfl (by omega)) (by omega) (own_reads h7) (by omega) hX).mono ?_
          rintro r w' ⟨sa, m, cc, rfl, hfd, hb8⟩
          rw [hDR]
          refine ⟨sa, m, cc, rfl, hidden ⟨sa, m, cc, ?_, fun q => ?_, hbt.trans (hb8.mono hbt.size)⟩⟩
          · have : decide (X ∈ l) = DR := by
              rw [← hDR]
              refine decide_eq_decide.2 ?_
              rw [hall]
              exact ⟨fun e => e.resolve_left hno, .inr⟩
            rw [this]
          · have q2 : X ∈ l.drop M2 := (hall.1 q).resolve_left hno
            obtain ⟨r1, r2⟩ := hfd q2
            have hw : way (f + 1) (l.idxOf X) l.length = 1 :: way f ((l.drop M2).idxOf X) (l.drop M2).length := by
              conv => lhs; unfold way
              rw [hln, if_neg (by omega), hmem2 hno, ← hM2, if_neg (by omega), hld, show M2 + (l.drop M2).idxOf X - M2 = (l.drop M2).idxOf X by omega]
            refine ⟨?_, by simp at r2; omega⟩
            rw [hw]
            simpa using r1)
        by_cases hin : X ∈ l.take M2
        · have HL : Hid (∀ (g7 c7 : Nat) (w7 : World), w7.ownsRow w.heap.size 5 1 (.slice (some ⟨g7, 0, none⟩) N1 c7) N1 (bytesV (B ++ [0])) → Below w.heap.size w w7 → Calls Try.prog 27 #[.slice (some ⟨g7, 0, none⟩) N1 c7, .slice (some ⟨b, o, none⟩) M2 c, .int .u32 X] w7 fun r w' => ∃ sa m cc, r = .returned (.tuple #[.slice sa m cc, .bool true]) ∧ Hid (WayR w (f + 1) B l X (.returned (.tuple #[.slice sa m cc, .bool true])) w')) := hidden (fun g7 c7 w7 h7 hb7 => by
            refine (rway_any f _ N1 c7 _ _ M2 c _ X w7 (by omega) (by omega) hcm ((h.later hb7).tk M2 (by omega)) (by omega) (own_reads h7) (by omega) hX).mono ?_
            rintro r w' ⟨sa, m, cc, rfl, hfd, hb8⟩
            obtain ⟨r1, r2⟩ := hfd hin
            rw [show decide (X ∈ l.take M2) = true by simpa using hin]
            refine ⟨sa, m, cc, rfl, hidden ⟨sa, m, cc, ?_, fun q => ?_, hb7.trans (hb8.mono hb7.size)⟩⟩
            · rw [show decide (X ∈ l) = true from decide_eq_true (hall.2 (.inl hin))]
            · have hw : way (f + 1) (l.idxOf X) l.length = 0 :: way f ((l.take M2).idxOf X) (l.take M2).length := by
                conv => lhs; unfold way
                rw [hln, if_neg (by omega), (hmem hin).1, ← hM2, if_pos (hmem hin).2, hlt]
              refine ⟨?_, by simp at r2; omega⟩
              rw [hw]
              simpa using r1)
          clear HR hDR
          generalize WayR w (f + 1) B l X = PQ at *
          clear h hln hr hc hM2 hlt hld hsp hN1 hBl h0 h1 hmem hmem2 hall hin
          go_enter Try.func27, Try.ntmps27
          go_upto_region 5 with fail
          go_region_held3 (fun w' => True) (trivial) (first
          | (refine step_appF (by rfl) (.tmp 24) (.tmp 25) (by rfl) w.heap.size _ 0 0 bn bc ba [] B (by rfl) (by rfl) (by repeat (first | exact made0g _ _ _ (by first | rfl | simp) (by first | omega | (simp; omega) | simp) | refine World.ownsRow.alloc ?_ _)) (HRR.out.later (by repeat (first | exact Below.refl _ _ | assumption | apply Below.drew | (refine Below.alloc ?_ (by first | omega | (simp; omega) | simp) _)))) (by omega) (by first | omega | (simp; omega) | simp) bn (by omega) B (by rfl) ?_; intro g6 c6 w6 HO6 HB6 HF6; have HBW6 : Hid (Below w.heap.size w w6) := hidden (Below.trans (by repeat (first | exact Below.refl _ _ | assumption | apply Below.drew | (refine Below.alloc ?_ (by first | omega | (simp; omega) | simp) _))) HB6.out); have hs6 := HBW6.out.size)
          | (refine step_appF (by rfl) (.tmp 26) (.tmp 27) (by rfl) w.heap.size g6 bn c6 1 1 _ B [0] (by rfl) (by rfl) (by first | exact HO6.out | exact HO6.out.alloc _) (rd_heap (by first | exact heap_alloc_new _ _ | (rw [HF6.out.block _ (by first | (simp; done) | (simp; omega) | omega) (by first | (simp; done) | (simp; omega) | omega)]; first | exact al_get1 _ _ _ | exact al_get2 _ _ _))) (by omega) (by first | omega | (simp; omega) | simp) N1 HN1.out _ rfl ?_; intro g7 c7 w7 HO7 HB7 HF7; have HBW7 : Hid (Below w.heap.size w w7) := hidden (Below.trans (by first | exact HBW6.out | exact HBW6.out.alloc HBW6.out.size _) HB7.out))
          | (go_at_call 27; refine (HL.out _ _ _ HO7.out HBW7.out).mono ?_; rintro r w8 ⟨sa, m, cc, rfl, HQ⟩)
          | fail)
          all_goals (try go_wp2)
          all_goals exact HQ.out
        · have HL : Hid (∀ (g7 c7 : Nat) (w7 : World), w7.ownsRow w.heap.size 5 1 (.slice (some ⟨g7, 0, none⟩) N1 c7) N1 (bytesV (B ++ [0])) → Below w.heap.size w w7 → Calls Try.prog 27 #[.slice (some ⟨g7, 0, none⟩) N1 c7, .slice (some ⟨b, o, none⟩) M2 c, .int .u32 X] w7 fun r w' => ∃ sa m cc, r = .returned (.tuple #[.slice sa m cc, .bool false]) ∧ Hid (Below w.heap.size w w')) := hidden (fun g7 c7 w7 h7 hb7 => by
            refine (rway_any f _ N1 c7 _ _ M2 c _ X w7 (by omega) (by omega) hcm ((h.later hb7).tk M2 (by omega)) (by omega) (own_reads h7) (by omega) hX).mono ?_
            rintro r w' ⟨sa, m, cc, rfl, hfd, hb8⟩
            rw [show decide (X ∈ l.take M2) = false by simpa using hin]
            exact ⟨sa, m, cc, rfl, hidden (hb7.trans (hb8.mono hb7.size))⟩)
          have HR1 := hidden (HR.out hin)
          have HRL : Hid (∀ w1, Below w.heap.size w w1 → Reads w1 ba bn bc B) := hidden (fun w1 hb => hr.later hb)
          clear HR hDR
          generalize WayR w (f + 1) B l X = PQ at *
          clear h hln hr hc hM2 hlt hld hsp hN1 hBl h0 h1 hmem hmem2 hall hin
          go_enter Try.func27, Try.ntmps27
          go_upto_region 5 with fail
          go_region_held3 (fun w' => True) (trivial) (first
          | (refine step_appF (by rfl) (.tmp 24) (.tmp 25) (by rfl) w.heap.size _ 0 0 bn bc ba [] B (by rfl) (by rfl) (by repeat (first | exact made0g _ _ _ (by first | rfl | simp) (by first | omega | (simp; omega) | simp) | refine World.ownsRow.alloc ?_ _)) (HRR.out.later (by repeat (first | exact Below.refl _ _ | assumption | apply Below.drew | (refine Below.alloc ?_ (by first | omega | (simp; omega) | simp) _)))) (by omega) (by first | omega | (simp; omega) | simp) bn (by omega) B (by rfl) ?_; intro g6 c6 w6 HO6 HB6 HF6; have HBW6 : Hid (Below w.heap.size w w6) := hidden (Below.trans (by repeat (first | exact Below.refl _ _ | assumption | apply Below.drew | (refine Below.alloc ?_ (by first | omega | (simp; omega) | simp) _))) HB6.out); have hs6 := HBW6.out.size)
          | (refine step_appF (by rfl) (.tmp 26) (.tmp 27) (by rfl) w.heap.size g6 bn c6 1 1 _ B [0] (by rfl) (by rfl) (by first | exact HO6.out | exact HO6.out.alloc _) (rd_heap (by first | exact heap_alloc_new _ _ | (rw [HF6.out.block _ (by first | (simp; done) | (simp; omega) | omega) (by first | (simp; done) | (simp; omega) | omega)]; first | exact al_get1 _ _ _ | exact al_get2 _ _ _))) (by omega) (by first | omega | (simp; omega) | simp) N1 HN1.out _ rfl ?_; intro g7 c7 w7 HO7 HB7 HF7; have HBW7 : Hid (Below w.heap.size w w7) := hidden (Below.trans (by first | exact HBW6.out | exact HBW6.out.alloc HBW6.out.size _) HB7.out))
          | (go_at_call 27; refine (HL.out _ _ _ HO7.out HBW7.out).mono ?_; rintro r w8 ⟨sa, m, cc, rfl, HQ⟩)
          | fail)
          all_goals (go_upto_region 8 with fail)
          all_goals
            have HRW := hidden (HRL.out _ HQ.out)
            have HRX := hidden (HR1.out _ HQ.out)
            clear HL HRR HO6 HB6 HF6 HBW6 hs6 HO7 HB7 HF7 HBW7 HR1 HRL HQ
          all_goals
            go_region_held3 (fun w' => True) (trivial) (first
          | (refine step_appF (by rfl) (.tmp 40) (.tmp 41) (by rfl) w8.heap.size _ 0 0 bn bc ba [] B (by rfl) (by rfl) (by repeat (first | exact made0g _ _ _ (by first | rfl | simp) (by first | omega | (simp; omega) | simp) | refine World.ownsRow.alloc ?_ _)) (HRW.out.later (by repeat (first | exact Below.refl _ _ | assumption | apply Below.drew | (refine Below.alloc ?_ (by first | omega | (simp; omega) | simp) _)))) (by omega) (by first | omega | (simp; omega) | simp) bn (by omega) B (by rfl) ?_; intro g6 c6 w6 HO6 HB6 HF6; have HBW6 : Hid (Below w8.heap.size w8 w6) := hidden (Below.trans (by repeat (first | exact Below.refl _ _ | assumption | apply Below.drew | (refine Below.alloc ?_ (by first | omega | (simp; omega) | simp) _))) HB6.out); have hs6 := HBW6.out.size)
          | (refine step_appF (by rfl) (.tmp 42) (.tmp 43) (by rfl) w8.heap.size g6 bn c6 1 1 _ B [1] (by rfl) (by rfl) (by first | exact HO6.out | exact HO6.out.alloc _) (rd_heap (by first | exact heap_alloc_new _ _ | (rw [HF6.out.block _ (by first | (simp; done) | (simp; omega) | omega) (by first | (simp; done) | (simp; omega) | omega)]; first | exact al_get1 _ _ _ | exact al_get2 _ _ _))) (by omega) (by first | omega | (simp; omega) | simp) N1 HN1.out _ rfl ?_; intro g7 c7 w7 HO7 HB7 HF7; have HBW7 : Hid (Below w8.heap.size w8 w7) := hidden (Below.trans (by first | exact HBW6.out | exact HBW6.out.alloc HBW6.out.size _) HB7.out))
          | (go_at_call 27; refine (HRX.out _ _ _ HO7.out HBW7.out).mono ?_; rintro r w8b ⟨sab, mb, ccb, rfl, HQb⟩)
          | fail)
          all_goals (try go_wp2)
          all_goals exact HQb.out
end Go.Proofs.Ytbifolpahmeaeaa
