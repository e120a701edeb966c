/- Layer 14, the document: Close. -/
import Derived.Test.YtilfgbcbodjegaaR14m
namespace Go.Proofs.Ytilfgbcbodjegaa
open Go.RowKit
set_option maxHeartbeats 1000000
set_option maxRecDepth 100000
set_option linter.unusedVariables false

/-- what the document's Close leaves -/
def DcR (B m : Nat) (v : Value) (w : World) (s : Ps) (x : Int) (e : Ending) (w' : World) : Prop := ∃ a n c, e = .returned (.tuple #[.slice a n c, .int .i64 0]) ∧ n = (numsF (gnB s x) s.L).length ∧ w'.ownsRow w.heap.size 3 1 (.slice a n c) n (intsV (numsF (gnB s x) s.L)) ∧ ∃ v', QAt B w' m v' (clsS s x) ∧ Fm w w' (TP m v) (TP m v')
def keyX (K : List Wd) (d : Wd) : Wd := if hasB K d.key = false then { d with key := 0 } else d
theorem keyX_n (K : List Wd) (d : Wd) : (keyX K d).n = d.n := by unfold keyX; split <;> rfl
theorem hasB_nums {K L : List Wd} (h : K.map (·.n) = L.map (·.n)) (y : Int) : hasB K y = hasB L y := by
  have e : ∀ M : List Wd, hasB M y = (M.map (·.n)).any (fun n => n == y) := fun M => by unfold hasB; rw [List.any_map]; rfl
  rw [e, e, h]
theorem mapK_nums (f : Wd → Wd) (hf : ∀ d, (f d).n = d.n) (L : List Wd) (j : Nat) : ((L.take j).map f ++ L.drop j).map (·.n) = L.map (·.n) := by
  rw [List.map_append, List.map_map]
  have : ((fun d : Wd => d.n) ∘ f) = (fun d : Wd => d.n) := by funext d; exact hf d
  rw [this, ← List.map_append, List.take_append_drop]
theorem clsT_len (s : Ps) (x : Int) : (clsT s x).length = s.L.length := by unfold clsT; split <;> simp
theorem clsT_at (s : Ps) (x : Int) (j : Nat) (hj : j < s.L.length) : ((clsT s x)[j]'(by rw [clsT_len]; exact hj)).n = s.L[j].n := by
  have : ∀ (T : List Wd) (hT : T = clsT s x) (h2 : j < T.length), T[j].n = s.L[j].n := by
    intro T hT h2
    unfold clsT at hT
    split at hT
    · subst hT; rfl
    · subst hT; simp only [List.getElem_map]; rfl
  exact this _ rfl _
set_option maxHeartbeats 16000000 in
theorem dclose_any {B m : Nat} {v : Value} {s : Ps} {w : World} (h : QAt B w m v s) (ho : Iv s) (hB : B ≤ w.heap.size) (x : Int) (hx : hasW s.L x) :
    Calls Try.prog 54 #[.pointer (some ⟨m, 0, none⟩), .int .i64 x] w (DcR B m v w s x) := by
  have hn : s.L.length ≤ 1000 := by have := ho.f63; omega
  have hml := h.lt
  obtain ⟨i, hi, hix⟩ : ∃ i : Nat, i < s.L.length ∧ ixW s.L x = i := ixW_has (hasB_iff.2 hx)
  have HA : Hid (Calls Try.prog 53 #[.pointer (some ⟨m, 0, none⟩), .int .i64 x] w fun e w' => e = .returned (.int .i64 i) ∧ w' = w) := hidden (by rw [← hix]; exact dat_any h hn x)
  have HO := hidden (dof_any h hn x)
  have i9 : ¬ (i : Int) < 0 := by omega
  have HBL : Hid (∀ j (hj : j < s.L.length) w1, Below w.heap.size w w1 → Calls Try.prog 22 #[.pointer (some ⟨m, 0, none⟩), .int .i64 s.L[j].n, .int .i64 x] w1 fun e w' => e = .returned (.bool (belB s x s.L[j].n)) ∧ Hid (Below w1.heap.size w1 w')) := hidden (fun j hj w1 hb => dbelow_any (h.later hb) hn _ x)
  obtain ⟨va, vc, hv⟩ := own_slice h.row
  obtain ⟨N, hN⟩ : ∃ N, s.L.length = N := ⟨_, rfl⟩
  have HCW : Hid (∀ w1, Below w.heap.size w w1 → w1.cell? ⟨m, 2, none⟩ = some (.slice va N vc) ∧ ∀ j (hj : j < s.L.length), ∃ g, va = some ⟨g, 0, none⟩ ∧ w1.cell? ⟨g, j * 8, none⟩ = some (.int .i64 s.L[j].n)) := hidden (fun w1 hb => by
    refine ⟨by rw [← hN, ← hv]; exact (h.later hb).cells.2.2.1, fun j hj => ?_⟩
    have q := (h.later hb).row
    obtain ⟨g, c, hv2, _⟩ := wrow_pos q (by omega)
    rw [hv2] at q hv
    simp only [Value.slice.injEq] at hv
    exact ⟨g, hv.1.symm, (wrow_cells q j hj).1⟩)
  obtain ⟨P, hP⟩ : ∃ P, (ofW s.L x).p = P := ⟨_, rfl⟩
  have HG : Hid (∀ y, y ≠ 0 → gnB s x y = (belB s x y || decide (y = P))) := hidden (fun y hy => by
    unfold gnB
    rw [hP]
    by_cases p0 : P = 0
    · have : ¬ y = P := by rw [p0]; exact hy
      simp [p0, hy]
    · simp [p0])
  have HPOS : Hid (∀ j (hj : j < s.L.length), s.L[j].n ≠ 0) := hidden (fun j hj => by have := ho.pos s.L[j] (List.getElem_mem hj); omega)
  -- the middle: the tree turned, for a window with a parent
  have HMID : P ≠ 0 → Hid (∀ w1, Below w.heap.size w w1 → Calls Try.prog 32 #[.pointer (some ⟨m, 0, none⟩), .int .i64 P] w1 fun e w' => e = .returned (wdA (ofW s.L P)) ∧ Hid (Below w1.heap.size w1 w')) := fun _ => hidden (fun w1 hb => dof_any (h.later hb) hn P)
  have HSIB : Hid (∀ w1, Below w.heap.size w w1 → Calls Try.prog 73 #[.pointer (some ⟨m, 0, none⟩), .int .i64 x] w1 fun e w' => e = .returned (.int .i64 (sibW s.L x)) ∧ Hid (Below w1.heap.size w1 w')) := hidden (fun w1 hb => dsib_any (h.later hb) hn x)
  have HTUR : P ≠ 0 → Hid (∀ w1, Below w.heap.size w w1 → Calls Try.prog 74 #[.pointer (some ⟨m, 0, none⟩), .int .i64 (ofW s.L P).p, .int .i64 P, .int .i64 (sibW s.L x)] w1 fun e w' => e = .returned (.tuple #[]) ∧ Hid (QAt B w' m v { s with L := clsT s x } ∧ Fm w1 w' (TP m v) (TP m v))) := fun p0 => hidden (fun w1 hb => (dturned_any (h.later hb) hn _ _ _).mono (fun e w' hh => ⟨hh.1, hidden (by
    have r := hh.2.out
    have e : clsT s x = s.L.map (turnF (ofW s.L P).p P (sibW s.L x)) := by unfold clsT; rw [hP, if_neg p0]
    rw [e]
    exact r)⟩))
  have HROOT : P = 0 → clsT s x = s.L := fun p0 => by unfold clsT; rw [hP, if_pos p0]
  have HQ := hidden h
  have HLO : Hid (∀ k, TP m v k → k < w.heap.size) := hidden (fun k hk => (h.low k hk).2)
  have HFIN : Hid (∀ (a : Option Addr) (n c : Nat) (w' : World) (v' : Value) (K : List Wd), n = (numsF (gnB s x) s.L).length → K = (clsT s x).filter (fun d => !gnB s x d.n) → w'.ownsRow w.heap.size 3 1 (.slice a n c) n (intsV (numsF (gnB s x) s.L)) → QAt B w' m v' { s with L := K.map (keyX K) } → Fm w w' (TP m v) (TP m v') → DcR B m v w s x (.returned (.tuple #[.slice a n c, .int .i64 0])) w') := hidden (fun a n c w' v' K hnn hK ho2 hq f => by
    refine ⟨a, n, c, rfl, hnn, ho2, v', ?_, f⟩
    have e : K.map (keyX K) = clsL s x := by rw [hK]; exact dcls_list ho x
    rw [e] at hq
    exact ⟨hq.base, hq.box, hq.row⟩)
  have HT : Hid (∀ j (hj : j < s.L.length) (hj2 : j < (clsT s x).length), (clsT s x)[j].n = s.L[j].n) := hidden (fun j hj hj2 => clsT_at s x j hj)
  have HTL := hidden (clsT_len s x)
  have HLN : Hid (∀ L : List Wd, (numsF (gnB s x) L).length ≤ L.length) := hidden (fun L => by unfold numsF; rw [List.length_map]; exact List.length_filter_le _ _)
  generalize hPQ : DcR B m v w s x = PQ at *
  obtain ⟨gB, hgB⟩ : ∃ gB, gnB s x = gB := ⟨_, rfl⟩
  rw [hgB] at HFIN HLN
  have HG2 : Hid (∀ y, y ≠ 0 → gB y = (belB s x y || decide (y = P))) := hidden (fun y hy => by rw [← hgB]; exact HG.out y hy)
  obtain ⟨bB, hbB⟩ : ∃ bB, belB s x = bB := ⟨_, rfl⟩
  rw [hbB] at HBL HG2
  generalize clsT s x = T at *
  have HN := hidden hN
  rw [hN] at hn
  unfold wdA at HO
  rw [hP] at HO
  generalize ofW s.L x = dx at *
  have hf := wfld2 dx.n dx.k P dx.a dx.b dx.m dx.s dx.key
  have hNl : N ≤ 64 := by have := ho.f63; omega
  clear h ho hx hix hi hP hPQ hgB hbB HG hv hN
  go_enter Try.func54, Try.ntmps54
  go_upto_region 7 with (first | (go_at_call 53; refine HA.out.mono ?_; rintro e1 w5 ⟨rfl, e2⟩; rw [e2]; clear e2) | (go_at_call 32; refine HO.out.mono ?_; rintro e1 w6 ⟨rfl, HB6⟩) | fail)
  clear HA HO hf i9
  go_loopw [7, 8, 9, 10] (fun a7 a8 i a10 w' => ∃ (j n : Nat), i = .int .i64 j ∧ j ≤ N ∧ n ≤ j ∧ Hid (Cl1 w w' a7 a8 n j (numsF gB (s.L.take j)) ((s.L.take j).map (fun d => gB d.n)))) (fun _ _ i _ _ => N - (intOf i).toNat)
  case atStart => exact ⟨0, 0, rfl, Nat.zero_le _, Nat.le_refl _, hidden ⟨HB6.out, World.ownsRow_nil _ _ _ _, World.ownsRow_nil _ _ _ _⟩⟩
  case round =>
    obtain ⟨j, n, rfl, hj, hnj, HC⟩ := hrel
    by_cases hlt : j < N
    · have l1 : (j : Int) < N := by omega
      have l0 : (0 : Int) ≤ j := by omega
      have hjl : j < s.L.length := by rw [HN.out]; exact hlt
      have HSN := hidden (numsF_snoc gB s.L j hjl)
      have HSB := hidden (gbs_snoc gB s.L j hjl)
      have HBj := hidden (fun w1 => HBL.out j hjl w1)
      have HCj : Hid (∀ w1, Below w.heap.size w w1 → w1.cell? ⟨m, 2, none⟩ = some (.slice va N vc) ∧ ∃ g, va = some ⟨g, 0, none⟩ ∧ w1.cell? ⟨g, j * 8, none⟩ = some (.int .i64 s.L[j].n)) := hidden (fun w1 hb => ⟨(HCW.out w1 hb).1, (HCW.out w1 hb).2 j hjl⟩)
      have hy0 := HPOS.out j hjl
      generalize s.L[j].n = y at *
      have hgy := HG2.out y hy0
      obtain ⟨_, g, rfl, _⟩ := HCj.out _ HC.out.bel
      have HCk : Hid (∀ w1, Below w.heap.size w w1 → w1.cell? ⟨m, 2, none⟩ = some (.slice (some ⟨g, 0, none⟩) N vc) ∧ w1.cell? ⟨g, j * 8, none⟩ = some (.int .i64 y)) := hidden (fun w1 hb => by
        obtain ⟨z1, g', z2, z3⟩ := HCj.out w1 hb
        simp only [Option.some.injEq, Addr.mk.injEq, and_true] at z2
        subst z2
        exact ⟨z1, z3⟩)
      have HAB : Hid (∀ (b : Bool) w2, Cl1 w w2 u7 u8 n j (numsF gB (s.L.take j)) ((s.L.take j).map (fun d => gB d.n)) → Hid ((w2.alloc (.cells #[.bool b] 4)).ownsRow w.heap.size 4 1 u8 j (boolsV ((s.L.take j).map (fun d => gB d.n)))) ∧ Hid ((w2.alloc (.cells #[.bool b] 4)).cell? ((⟨w2.heap.size, 0, none⟩ : Addr).add 0) = some (.bool b)) ∧ Hid (w.heap.size ≤ (w2.alloc (.cells #[.bool b] 4)).heap.size) ∧ Hid (Cl1 w (w2.alloc (.cells #[.bool b] 4)) u7 u8 n j (numsF gB (s.L.take j)) ((s.L.take j).map (fun d => gB d.n)))) := hidden (fun b w2 hc => by
        have hb : Below w2.heap.size w2 (w2.alloc (.cells #[.bool b] 4)) := (Below.refl _ _).alloc (Nat.le_refl _) _
        have hc2 := hc.later hb
        refine ⟨hidden hc2.o, hidden ?_, hidden hc2.bel.size, hidden hc2⟩
        rw [Addr.add_lit]
        have hh := heap_alloc_new w2 (.cells #[.bool b] 4)
        unfold World.cell?
        simp only
        rw [hh]
        rfl)
      have HAI : Hid (∀ (v8 : Value) (j2 : Nat) (bs : List Bool) w2, Cl1 w w2 u7 v8 n j2 (numsF gB (s.L.take j)) bs → Hid ((w2.alloc (.cells #[.int .i64 y] 3)).ownsRow w.heap.size 3 1 u7 n (intsV (numsF gB (s.L.take j)))) ∧ Hid ((w2.alloc (.cells #[.int .i64 y] 3)).cell? ((⟨w2.heap.size, 0, none⟩ : Addr).add 0) = some (.int .i64 y)) ∧ Hid (w.heap.size ≤ (w2.alloc (.cells #[.int .i64 y] 3)).heap.size) ∧ Hid (Cl1 w (w2.alloc (.cells #[.int .i64 y] 3)) u7 v8 n j2 (numsF gB (s.L.take j)) bs)) := hidden (fun v8 j2 bs w2 hc => by
        have hb : Below w2.heap.size w2 (w2.alloc (.cells #[.int .i64 y] 3)) := (Below.refl _ _).alloc (Nat.le_refl _) _
        have hc2 := hc.later hb
        refine ⟨hidden hc2.g, hidden ?_, hidden hc2.bel.size, hidden hc2⟩
        rw [Addr.add_lit]
        have hh := heap_alloc_new w2 (.cells #[.int .i64 y] 3)
        unfold World.cell?
        simp only
        rw [hh]
        rfl)
      obtain ⟨c2, c3⟩ := HCk.out _ HC.out.bel
      have HBW := hidden (HBj.out wr HC.out.bel)
      generalize bB y = BL at *
      generalize gB y = GY at *
      clear HBL HCW HPOS HMID HSIB HTUR HROOT HQ HLO HFIN HT HTL HLN HG2 HCj HBj hy0
      cases BL with
      | true =>
        obtain rfl : GY = true := by rw [hgy]; rfl
        rw [if_pos rfl] at HSN
        clear hgy
        go_wp2_with (first | (go_at_call 22; refine HBW.out.mono ?_; rintro e1 w2 ⟨rfl, HB2⟩; have HC2 := hidden (HC.out.later HB2.out); obtain ⟨c4, c5⟩ := HCk.out _ HC2.out.bel; obtain ⟨A1, A2, A3, A4⟩ := HAB.out true w2 HC2.out) | (at_builtin; refine wpList_snocBF rfl (.tmp 54) (.tmp 56) rfl u8 j ((s.L.take j).map (fun d => gB d.n)) true ⟨w2.heap.size, 0, none⟩ rfl rfl A1.out A2.out (by omega) A3.out ?_; intro a4 c4' w4 HO4 HF4; have HC4 := hidden (A4.out.snocB HO4.out HF4.out); obtain ⟨c6, c7'⟩ := HCk.out _ HC4.out.bel; obtain ⟨I1, I2, I3, I4⟩ := HAI.out _ _ _ w4 HC4.out) | (at_builtin; refine wpList_snocIF rfl (.tmp 59) (.tmp 68) rfl u7 n (numsF gB (s.L.take j)) y ⟨w4.heap.size, 0, none⟩ rfl rfl I1.out I2.out (by omega) I3.out ?_; intro a5 c5' w5 HO5 HF5; have HC5 := hidden (I4.out.snocI HO5.out HF5.out)) | fail)
        rw [← HSN.out, ← HSB.out] at HC5
        go_roundw
        case rel => exact ⟨j + 1, n + 1, by first | rfl | go_num, by omega, by omega, HC5⟩
        case measure => simp [intOf]; omega
      | false =>
        by_cases hyP : y = P
        · obtain rfl : GY = true := by rw [hgy, decide_eq_true hyP]; rfl
          rw [if_pos rfl] at HSN
          have kq : (y == P) = true := by simp [hyP]
          clear hgy hyP
          go_wp2_with (first | (go_at_call 22; refine HBW.out.mono ?_; rintro e1 w2 ⟨rfl, HB2⟩; have HC2 := hidden (HC.out.later HB2.out); obtain ⟨c4, c5⟩ := HCk.out _ HC2.out.bel; obtain ⟨A1, A2, A3, A4⟩ := HAB.out true w2 HC2.out) | (at_builtin; refine wpList_snocBF rfl (.tmp 54) (.tmp 56) rfl u8 j ((s.L.take j).map (fun d => gB d.n)) true ⟨w2.heap.size, 0, none⟩ rfl rfl A1.out A2.out (by omega) A3.out ?_; intro a4 c4' w4 HO4 HF4; have HC4 := hidden (A4.out.snocB HO4.out HF4.out); obtain ⟨c6, c7'⟩ := HCk.out _ HC4.out.bel; obtain ⟨I1, I2, I3, I4⟩ := HAI.out _ _ _ w4 HC4.out) | (at_builtin; refine wpList_snocIF rfl (.tmp 59) (.tmp 68) rfl u7 n (numsF gB (s.L.take j)) y ⟨w4.heap.size, 0, none⟩ rfl rfl I1.out I2.out (by omega) I3.out ?_; intro a5 c5' w5 HO5 HF5; have HC5 := hidden (I4.out.snocI HO5.out HF5.out)) | fail)
          rw [← HSN.out, ← HSB.out] at HC5
          go_roundw
          case rel => exact ⟨j + 1, n + 1, by first | rfl | go_num, by omega, by omega, HC5⟩
          case measure => simp [intOf]; omega
        · obtain rfl : GY = false := by rw [hgy, decide_eq_false hyP]; rfl
          rw [if_neg (by simp)] at HSN
          have kq : (y == P) = false := by simp [hyP]
          clear hgy hyP
          go_wp2_with (first | (go_at_call 22; refine HBW.out.mono ?_; rintro e1 w2 ⟨rfl, HB2⟩; have HC2 := hidden (HC.out.later HB2.out); obtain ⟨c4, c5⟩ := HCk.out _ HC2.out.bel; obtain ⟨A1, A2, A3, A4⟩ := HAB.out false w2 HC2.out) | (at_builtin; refine wpList_snocBF rfl (.tmp 54) (.tmp 56) rfl u8 j ((s.L.take j).map (fun d => gB d.n)) false ⟨w2.heap.size, 0, none⟩ rfl rfl A1.out A2.out (by omega) A3.out ?_; intro a4 c4' w4 HO4 HF4; have HC4 := hidden (A4.out.snocB HO4.out HF4.out); obtain ⟨c6, c7'⟩ := HCk.out _ HC4.out.bel) | fail)
          rw [← HSN.out, ← HSB.out] at HC4
          go_roundw
          case rel => exact ⟨j + 1, n, by first | rfl | go_num, by omega, by omega, HC4⟩
          case measure => simp [intOf]; omega
    · obtain rfl : j = N := by omega
      have HC1 : Hid (Cl1 w wr u7 u8 n j (numsF gB s.L) (s.L.map (fun d => gB d.n))) := hidden (by
        have r := HC.out
        rw [show s.L.take j = s.L by rw [← HN.out, List.take_length]] at r
        exact r)
      have HNZ : Hid (n = (numsF gB s.L).length) := hidden (by have := HC1.out.g.1; simpa [intsV] using this.symm)
      obtain ⟨a7, c7, hu7⟩ := own_slice HC1.out.g
      obtain ⟨a8, c8, hu8⟩ := own_slice HC1.out.o
      subst hu7
      subst hu8
      have c2 := (HCW.out _ HC.out.bel).1
      clear HC HBL HCW HPOS HG2
      have HTOP : Hid (∀ wx, QAt B wx m v { s with L := T } → Fm wr wx (TP m v) (TP m v) → Cl2 B m v { s with L := T } w wx (.slice a7 n c7) (.slice a8 j c8) (.slice none 0 0) n j 0 (numsF gB s.L) (s.L.map (fun d => gB d.n)) []) := hidden (fun wx hq f => by
        have hno : ∀ k, w.heap.size ≤ k → ¬ TP m v k := fun k hk q => by have := HLO.out k q; omega
        refine ⟨hq, ?_, own_fm f HC1.out.g (fun k e => hno k (HC1.out.g.lt k e).1), own_fm f HC1.out.o (fun k e => hno k (HC1.out.o.lt k e).1), World.ownsRow_nil _ _ _ _, HLO.out⟩
        exact (Fm.same HC1.out.bel).trans f)
      by_cases p0 : P = 0
      · have pq : (P != 0) = false := by simp [p0]
        have hTs := HROOT p0
        have HS2 : Hid (Cl2 B m v { s with L := T } w wr (.slice a7 n c7) (.slice a8 j c8) (.slice none 0 0) n j 0 (numsF gB s.L) (s.L.map (fun d => gB d.n)) []) := hidden (HTOP.out wr (by rw [hTs]; exact HQ.out.later HC1.out.bel) (Fm.same (Below.refl _ _)))
        clear HTOP HC1 HMID HSIB HTUR HROOT HQ p0 hTs
        go_upto_region 17 with fail
        go_loopw [11, 12] (fun a11 i2 w' => ∃ (k q : Nat), i2 = .int .i64 k ∧ k ≤ j ∧ q ≤ k ∧ Hid (Cl2 B m v { s with L := T } w w' (.slice a7 n c7) (.slice a8 j c8) a11 n j q (numsF gB s.L) (s.L.map (fun d => gB d.n)) ((T.take k).filter (fun d => !gB d.n)))) (fun _ i2 _ => j - (intOf i2).toNat)
        case atStart => exact ⟨0, 0, rfl, Nat.zero_le _, Nat.le_refl _, HS2⟩
        case round =>
          obtain ⟨k, q, rfl, hk, hqk, HC⟩ := hrel
          by_cases hlt2 : k < j
          · have l1 : (k : Int) < j := by omega
            have l0 : (0 : Int) ≤ k := by omega
            have hks : k < s.L.length := by rw [HN.out]; exact hlt2
            have hkT : k < T.length := by rw [HTL.out]; exact hks
            have hTn := HT.out k hks hkT
            obtain ⟨gb, cb, hb1, hb2, hb3⟩ := brow_cell HC.out.o k (by simpa using hks)
            simp only [Value.slice.injEq] at hb1
            obtain ⟨rfl, _, rfl⟩ := hb1
            have hbk : (s.L.map (fun d => gB d.n))[k]'(by simpa using hks) = gB T[k].n := by rw [hTn]; simp
            rw [hbk] at hb2
            have HSF := hidden (fil_snoc gB T k hkT)
            have hlT : ({ s with L := T } : Ps).L.length = j := by show T.length = j; rw [HTL.out, HN.out]
            have qr := HC.out.q.row
            obtain ⟨g, c, hv2, _⟩ := wrow_pos qr (by show 0 < T.length; omega)
            rw [hv2] at qr
            have qc := wrow_cells qr k hkT
            have qm := HC.out.q.cells.2.2.1
            rw [hv2, hlT] at qm
            clear hv2 qr hlT hbk hTn
            have qc2 : wr.cell? ⟨g, k * 8, none⟩ = some (.int .i64 T[k].n) ∧ wr.cell? ⟨g, k * 8 + 1, none⟩ = some (.int .i64 T[k].k) ∧ wr.cell? ⟨g, k * 8 + 2, none⟩ = some (.int .i64 T[k].p) ∧ wr.cell? ⟨g, k * 8 + 3, none⟩ = some (.int .i64 T[k].a) ∧ wr.cell? ⟨g, k * 8 + 4, none⟩ = some (.int .i64 T[k].b) ∧ wr.cell? ⟨g, k * 8 + 5, none⟩ = some (.int .i64 T[k].m) ∧ wr.cell? ⟨g, k * 8 + 6, none⟩ = some (.int .u32 T[k].s) ∧ wr.cell? ⟨g, k * 8 + 7, none⟩ = some (.int .i64 T[k].key) := qc
            clear qc
            obtain ⟨d, HDD⟩ : ∃ d, Hid (T[k] = d) := ⟨_, hidden rfl⟩
            rw [HDD.out] at qc2 hb2 HSF
            obtain ⟨e0, e1, e2, e3, e4, e5, e6, e7⟩ := qc2
            have HAW : Hid (Hid ((wr.alloc (.cells #[.int .i64 d.n, .int .i64 d.k, .int .i64 d.p, .int .i64 d.a, .int .i64 d.b, .int .i64 d.m, .int .u32 d.s, .int .i64 d.key] 66)).ownsRow w.heap.size 66 8 u11 q (wdsV ((T.take k).filter (fun d => !gB d.n)))) ∧ Hid (∀ jj u, (wdsV [d])[jj]? = some u → (wr.alloc (.cells #[.int .i64 d.n, .int .i64 d.k, .int .i64 d.p, .int .i64 d.a, .int .i64 d.b, .int .i64 d.m, .int .u32 d.s, .int .i64 d.key] 66)).cell? ((⟨wr.heap.size, 0, none⟩ : Addr).add jj) = some u) ∧ Hid (w.heap.size ≤ (wr.alloc (.cells #[.int .i64 d.n, .int .i64 d.k, .int .i64 d.p, .int .i64 d.a, .int .i64 d.b, .int .i64 d.m, .int .u32 d.s, .int .i64 d.key] 66)).heap.size) ∧ Hid (Cl2 B m v { s with L := T } w (wr.alloc (.cells #[.int .i64 d.n, .int .i64 d.k, .int .i64 d.p, .int .i64 d.a, .int .i64 d.b, .int .i64 d.m, .int .u32 d.s, .int .i64 d.key] 66)) (.slice a7 n c7) (.slice (some ⟨gb, 0, none⟩) j c8) u11 n j q (numsF gB s.L) (s.L.map (fun d => gB d.n)) ((T.take k).filter (fun d => !gB d.n)))) := hidden (by
              have hb : Below wr.heap.size wr (wr.alloc (.cells #[.int .i64 d.n, .int .i64 d.k, .int .i64 d.p, .int .i64 d.a, .int .i64 d.b, .int .i64 d.m, .int .u32 d.s, .int .i64 d.key] 66)) := (Below.refl _ _).alloc (Nat.le_refl _) _
              have hc2 := HC.out.later hb
              refine ⟨hidden hc2.l, hidden ?_, hidden hc2.f.size, hidden hc2⟩
              intro jj u hjj
              rw [Addr.add_lit, Nat.zero_add]
              simp only [World.cell?, heap_alloc_new]
              simpa [wdsV, wdV] using hjj)
            obtain ⟨AW1, AW2, AW3, AW4⟩ := HAW.out
            have HLQ : Hid (q = ((T.take k).filter (fun d => !gB d.n)).length) := hidden (by have := HC.out.l.1; rw [wdsV_len] at this; omega)
            generalize gB d.n = GD at *
            clear HAW HS2 HFIN HT HTL HLN HLO HDD HNZ
            cases GD with
            | true =>
              rw [if_pos rfl] at HSF
              rw [← HSF.out] at HC
              clear AW1 AW2 AW3 AW4
              go_wp2
              go_roundw
              case rel => exact ⟨k + 1, q, by first | rfl | go_num, by omega, by omega, HC⟩
              case measure => simp [intOf]; omega
            | false =>
              rw [if_neg (by simp)] at HSF
              clear HC
              go_wp2_with (first | (at_builtin; refine wpList_appD rfl (.tmp 96) (.tmp 104) rfl w.heap.size u11 q ((T.take k).filter (fun d => !gB d.n)) [d] HLQ.out 1 rfl rfl AW1.out ⟨wr.heap.size, 0, none⟩ 1 rfl AW2.out (by omega) (by omega) (by omega) AW3.out ?_; intro a9 c9 w9 HO9 HF9; have HC9 := hidden (AW4.out.snocW HO9.out HF9.out)) | fail)
              rw [← HSF.out] at HC9
              go_roundw
              case rel => exact ⟨k + 1, q + 1, by first | rfl | go_num, by omega, by omega, HC9⟩
              case measure => simp [intOf]; omega
          · obtain rfl : k = j := by omega
            obtain ⟨K, hK⟩ : ∃ K, T.filter (fun d => !gB d.n) = K := ⟨_, rfl⟩
            have HKE : Hid (K = T.filter (fun d => !gB d.n)) := hidden hK.symm
            have hTk : T.take k = T := by rw [show k = T.length by rw [HTL.out, HN.out], List.take_length]
            rw [hTk, hK] at HC
            have hqK : q = K.length := by have := HC.out.l.1; rw [wdsV_len] at this; omega
            subst hqK
            obtain ⟨⟨z1, z2⟩, z3, z4, z5⟩ := HC.out.done hB
            obtain ⟨av, cv, hvv⟩ := own_slice HC.out.q.row
            have z1' : wr.cell? ⟨m, 2, none⟩ = some (.slice av k cv) := by
              rw [z1, hvv]
              show some (Value.slice av T.length cv) = _
              rw [HTL.out, HN.out]
            clear hvv z1
            have HZ3 := hidden z3
            have HZ4 := hidden z4
            have HZ5 := hidden z5
            obtain ⟨a11, c11, hu11⟩ := own_slice HC.out.l
            subst hu11
            have hKl : K.length ≤ 64 := by omega
            clear z3 z4 z5 hTk hK HC HS2 HT HTL HLN HLO
            obtain ⟨M, hM⟩ : ∃ M, K.length = M := ⟨_, rfl⟩
            have HM := hidden hM
            rw [hM] at HZ3 HZ4 HZ5 hKl hqk
            rw [hM]
            clear hM
            go_upto_region 22 with fail
            generalize wr.setCell ⟨m, 2, none⟩ (.slice a11 M c11) = W3 at *
            clear z1' z2
            go_upto_region 23 with fail
            go_loopw [13] (fun i3 w' => ∃ t : Nat, i3 = .int .i64 t ∧ t ≤ M ∧ Hid (w'.ownsRow w.heap.size 3 1 (.slice a7 n c7) n (intsV (numsF gB s.L)) ∧ QAt B w' m (.slice a11 M c11) { s with L := (K.take t).map (keyX K) ++ K.drop t } ∧ Fm w w' (TP m v) (TP m (.slice a11 M c11)))) (fun i3 _ => M - (intOf i3).toNat)
            case atStart => exact ⟨0, rfl, Nat.zero_le _, hidden ⟨HZ3.out, HZ4.out, HZ5.out⟩⟩
            case round =>
              obtain ⟨t, rfl, ht, HR⟩ := hrel
              obtain ⟨KL, hKL⟩ : ∃ KL, (K.take t).map (keyX K) ++ K.drop t = KL := ⟨_, rfl⟩
              have hKN : KL.length = M := by rw [← hKL, mapK_len]; exact HM.out
              have hnm : KL.map (·.n) = K.map (·.n) := by rw [← hKL]; exact mapK_nums (keyX K) (keyX_n K) K t
              by_cases hlt3 : t < M
              · have l1 : (t : Int) < M := by omega
                have l0 : (0 : Int) ≤ t := by omega
                have htl : t < K.length := by rw [HM.out]; exact hlt3
                have htk : t < KL.length := by omega
                obtain ⟨d, hd⟩ : ∃ d, K[t] = d := ⟨_, rfl⟩
                have hKd : KL[t] = d := by
                  rw [← hd]
                  subst hKL
                  exact mapK_at (keyX K) K t htl htk
                have HNX : Hid (KL.set t (keyX K d) = (K.take (t + 1)).map (keyX K) ++ K.drop (t + 1)) := hidden (by rw [← hKL, ← hd]; exact mapK_set (keyX K) K t htl)
                rw [hKL] at HR
                obtain ⟨r0, q0, f0⟩ := HR.out
                obtain ⟨g, rfl⟩ : ∃ g, a11 = some ⟨g, 0, none⟩ := by
                  have r := q0.row
                  rw [show ({ s with L := KL } : Ps).L.length = M from hKN] at r
                  obtain ⟨g, c, hv2, _⟩ := wrow_pos (L := KL) (by rw [hKN]; exact r) (by omega)
                  simp only [Value.slice.injEq] at hv2
                  exact ⟨g, hv2.1⟩
                have hHA := dat_any q0 (by show KL.length ≤ 1000; omega) d.key
                have qw := q0.win (by show List.length _ = _; simp [hKN]) t (by show t < List.length _; simp [hKN]; omega) d (by exact hKd)
                have qrow : wr.ownsRow B 66 8 (.slice (some ⟨g, 0, none⟩) KL.length c11) KL.length (wdsV KL) := by
                  have r := q0.row
                  rw [hKN]
                  rw [show ({ s with L := KL } : Ps).L.length = M from hKN] at r
                  exact r
                have k7 : wr.cell? ⟨g, t * 8 + 7, none⟩ = some (.int .i64 d.key) := by
                  have := (wrow_cells qrow t htk).2.2.2.2.2.2.2
                  rw [hKd] at this
                  exact this
                have k7f : wr.frozen? ⟨g, t * 8 + 7, none⟩ = false := wrow_frozen qrow _
                have c2 := qw.1
                by_cases hh : hasB K d.key = false
                · have hix : ixW KL d.key = -1 := ixW_none (by rw [hasB_nums hnm]; exact hh)
                  rw [show ixW ({ s with L := KL } : Ps).L d.key = -1 from hix] at hHA
                  have HAT := hidden hHA
                  obtain ⟨q1, g1⟩ := q0.setW (by show List.length _ = _; simp [hKN]) t (by show t < List.length _; simp [hKN]; omega) 7 (by omega) (.int .i64 0) d ({ d with key := 0 } : Wd) (by exact hKd) rfl
                  have HEND : Hid ((wr.setCell ⟨g, t * 8 + 7, none⟩ (.int .i64 0)).ownsRow w.heap.size 3 1 (.slice a7 n c7) n (intsV (numsF gB s.L)) ∧ QAt B (wr.setCell ⟨g, t * 8 + 7, none⟩ (.int .i64 0)) m (.slice (some ⟨g, 0, none⟩) M c11) { s with L := (K.take (t + 1)).map (keyX K) ++ K.drop (t + 1) } ∧ Fm w (wr.setCell ⟨g, t * 8 + 7, none⟩ (.int .i64 0)) (TP m v) (TP m (.slice (some ⟨g, 0, none⟩) M c11))) := hidden (by
                    refine ⟨ownsRow_setCell_other r0 (own_two r0 qrow (by decide) g · rfl) _, ?_, f0.trans g1⟩
                    rw [← HNX.out, show keyX K d = ({ d with key := 0 } : Wd) by unfold keyX; rw [if_pos hh]]
                    exact q1)
                  clear q0 q1 f0 g1 HNX HR hKd hd hKL hh hix hHA qw qrow r0 hnm HFIN HZ3 HZ4 HZ5
                  generalize d.key = dk at *
                  go_wp2_with (first | (go_at_call 53; refine HAT.out.mono ?_; rintro e1 w5 ⟨rfl, e2⟩; rw [e2]; clear e2) | fail)
                  go_roundw
                  case rel => exact ⟨t + 1, by first | rfl | go_num, by omega, HEND⟩
                  case measure => simp [intOf]; omega
                · obtain ⟨ii, _, hix⟩ := ixW_has (L := KL) (x := d.key) (by rw [hasB_nums hnm]; simpa using hh)
                  rw [show ixW ({ s with L := KL } : Ps).L d.key = (ii : Int) from hix] at hHA
                  have HAT := hidden hHA
                  have i9 : ¬ (ii : Int) < 0 := by omega
                  have HEND : Hid (wr.ownsRow w.heap.size 3 1 (.slice a7 n c7) n (intsV (numsF gB s.L)) ∧ QAt B wr m (.slice (some ⟨g, 0, none⟩) M c11) { s with L := (K.take (t + 1)).map (keyX K) ++ K.drop (t + 1) } ∧ Fm w wr (TP m v) (TP m (.slice (some ⟨g, 0, none⟩) M c11))) := hidden (by
                    refine ⟨r0, ?_, f0⟩
                    rw [← HNX.out, show keyX K d = d by unfold keyX; rw [if_neg hh]]
                    have : KL.set t d = KL := by rw [← hKd]; exact List.set_getElem_self htk
                    rw [this]
                    exact q0)
                  clear q0 f0 HNX HR hKd hd hKL hh hix hHA qw qrow r0 hnm HFIN HZ3 HZ4 HZ5
                  generalize d.key = dk at *
                  go_wp2_with (first | (go_at_call 53; refine HAT.out.mono ?_; rintro e1 w5 ⟨rfl, e2⟩; rw [e2]; clear e2) | fail)
                  go_roundw
                  case rel => exact ⟨t + 1, by first | rfl | go_num, by omega, HEND⟩
                  case measure => simp [intOf]; omega
              · obtain rfl : t = M := by omega
                have HQ9 := hidden (HFIN.out a7 n c7 wr (.slice a11 t c11) K HNZ.out HKE.out HR.out.1 (by
                  have r := HR.out.2.1
                  rw [show K.take t = K by rw [← HM.out, List.take_length], show K.drop t = [] by rw [← HM.out, List.drop_length], List.append_nil] at r
                  exact r) HR.out.2.2)
                have c2 := HR.out.2.1.cells.2.2.1
                clear HR HFIN HZ3 HZ4 HZ5 hKL hKN hnm
                go_wp2
                exact HQ9.out
      · have pq : (P != 0) = true := by rw [bne_iff_ne]; exact p0
        have HM2 := HMID p0
        have HT2 := HTUR p0
        unfold wdA at HM2
        generalize ofW s.L P = dp at *
        generalize sibW s.L x = sb at *
        have hf2 := wfld2 dp.n dp.k dp.p dp.a dp.b dp.m dp.s dp.key
        clear HMID HTUR HROOT HQ p0
        go_upto_region 15 with (first | (go_at_call 32; refine (HM2.out _ HC1.out.bel).mono ?_; rintro e1 w6 ⟨rfl, HB6⟩; have HBW6 := hidden (HC1.out.bel.trans (HB6.out.mono HC1.out.bel.size))) | (go_at_call 73; refine (HSIB.out _ HBW6.out).mono ?_; rintro e1 w7 ⟨rfl, HB7⟩; have HBW7 := hidden (HBW6.out.trans (HB7.out.mono HBW6.out.size))) | (go_at_call 74; refine (HT2.out _ HBW7.out).mono ?_; rintro e1 w8 ⟨rfl, HT8⟩) | fail)
        have HS2 : Hid (Cl2 B m v { s with L := T } w w8 (.slice a7 n c7) (.slice a8 j c8) (.slice none 0 0) n j 0 (numsF gB s.L) (s.L.map (fun d => gB d.n)) []) := hidden (HTOP.out w8 HT8.out.1 (((Fm.same HB6.out).trans (Fm.same HB7.out)).trans HT8.out.2))
        clear HTOP HC1 HM2 HT2 HSIB HB6 HB7 HBW6 HBW7 HT8 hf2
        go_upto_region 17 with fail
        go_loopw [11, 12] (fun a11 i2 w' => ∃ (k q : Nat), i2 = .int .i64 k ∧ k ≤ j ∧ q ≤ k ∧ Hid (Cl2 B m v { s with L := T } w w' (.slice a7 n c7) (.slice a8 j c8) a11 n j q (numsF gB s.L) (s.L.map (fun d => gB d.n)) ((T.take k).filter (fun d => !gB d.n)))) (fun _ i2 _ => j - (intOf i2).toNat)
        case atStart => exact ⟨0, 0, rfl, Nat.zero_le _, Nat.le_refl _, HS2⟩
        case round =>
          obtain ⟨k, q, rfl, hk, hqk, HC⟩ := hrel
          by_cases hlt2 : k < j
          · have l1 : (k : Int) < j := by omega
            have l0 : (0 : Int) ≤ k := by omega
            have hks : k < s.L.length := by rw [HN.out]; exact hlt2
            have hkT : k < T.length := by rw [HTL.out]; exact hks
            have hTn := HT.out k hks hkT
            obtain ⟨gb, cb, hb1, hb2, hb3⟩ := brow_cell HC.out.o k (by simpa using hks)
            simp only [Value.slice.injEq] at hb1
            obtain ⟨rfl, _, rfl⟩ := hb1
            have hbk : (s.L.map (fun d => gB d.n))[k]'(by simpa using hks) = gB T[k].n := by rw [hTn]; simp
            rw [hbk] at hb2
            have HSF := hidden (fil_snoc gB T k hkT)
            have hlT : ({ s with L := T } : Ps).L.length = j := by show T.length = j; rw [HTL.out, HN.out]
            have qr := HC.out.q.row
            obtain ⟨g, c, hv2, _⟩ := wrow_pos qr (by show 0 < T.length; omega)
            rw [hv2] at qr
            have qc := wrow_cells qr k hkT
            have qm := HC.out.q.cells.2.2.1
            rw [hv2, hlT] at qm
            clear hv2 qr hlT hbk hTn
            have qc2 : wr.cell? ⟨g, k * 8, none⟩ = some (.int .i64 T[k].n) ∧ wr.cell? ⟨g, k * 8 + 1, none⟩ = some (.int .i64 T[k].k) ∧ wr.cell? ⟨g, k * 8 + 2, none⟩ = some (.int .i64 T[k].p) ∧ wr.cell? ⟨g, k * 8 + 3, none⟩ = some (.int .i64 T[k].a) ∧ wr.cell? ⟨g, k * 8 + 4, none⟩ = some (.int .i64 T[k].b) ∧ wr.cell? ⟨g, k * 8 + 5, none⟩ = some (.int .i64 T[k].m) ∧ wr.cell? ⟨g, k * 8 + 6, none⟩ = some (.int .u32 T[k].s) ∧ wr.cell? ⟨g, k * 8 + 7, none⟩ = some (.int .i64 T[k].key) := qc
            clear qc
            obtain ⟨d, HDD⟩ : ∃ d, Hid (T[k] = d) := ⟨_, hidden rfl⟩
            rw [HDD.out] at qc2 hb2 HSF
            obtain ⟨e0, e1, e2, e3, e4, e5, e6, e7⟩ := qc2
            have HAW : Hid (Hid ((wr.alloc (.cells #[.int .i64 d.n, .int .i64 d.k, .int .i64 d.p, .int .i64 d.a, .int .i64 d.b, .int .i64 d.m, .int .u32 d.s, .int .i64 d.key] 66)).ownsRow w.heap.size 66 8 u11 q (wdsV ((T.take k).filter (fun d => !gB d.n)))) ∧ Hid (∀ jj u, (wdsV [d])[jj]? = some u → (wr.alloc (.cells #[.int .i64 d.n, .int .i64 d.k, .int .i64 d.p, .int .i64 d.a, .int .i64 d.b, .int .i64 d.m, .int .u32 d.s, .int .i64 d.key] 66)).cell? ((⟨wr.heap.size, 0, none⟩ : Addr).add jj) = some u) ∧ Hid (w.heap.size ≤ (wr.alloc (.cells #[.int .i64 d.n, .int .i64 d.k, .int .i64 d.p, .int .i64 d.a, .int .i64 d.b, .int .i64 d.m, .int .u32 d.s, .int .i64 d.key] 66)).heap.size) ∧ Hid (Cl2 B m v { s with L := T } w (wr.alloc (.cells #[.int .i64 d.n, .int .i64 d.k, .int .i64 d.p, .int .i64 d.a, .int .i64 d.b, .int .i64 d.m, .int .u32 d.s, .int .i64 d.key] 66)) (.slice a7 n c7) (.slice (some ⟨gb, 0, none⟩) j c8) u11 n j q (numsF gB s.L) (s.L.map (fun d => gB d.n)) ((T.take k).filter (fun d => !gB d.n)))) := hidden (by
              have hb : Below wr.heap.size wr (wr.alloc (.cells #[.int .i64 d.n, .int .i64 d.k, .int .i64 d.p, .int .i64 d.a, .int .i64 d.b, .int .i64 d.m, .int .u32 d.s, .int .i64 d.key] 66)) := (Below.refl _ _).alloc (Nat.le_refl _) _
              have hc2 := HC.out.later hb
              refine ⟨hidden hc2.l, hidden ?_, hidden hc2.f.size, hidden hc2⟩
              intro jj u hjj
              rw [Addr.add_lit, Nat.zero_add]
              simp only [World.cell?, heap_alloc_new]
              simpa [wdsV, wdV] using hjj)
            obtain ⟨AW1, AW2, AW3, AW4⟩ := HAW.out
            have HLQ : Hid (q = ((T.take k).filter (fun d => !gB d.n)).length) := hidden (by have := HC.out.l.1; rw [wdsV_len] at this; omega)
            generalize gB d.n = GD at *
            clear HAW HS2 HFIN HT HTL HLN HLO HDD HNZ
            cases GD with
            | true =>
              rw [if_pos rfl] at HSF
              rw [← HSF.out] at HC
              clear AW1 AW2 AW3 AW4
              go_wp2
              go_roundw
              case rel => exact ⟨k + 1, q, by first | rfl | go_num, by omega, by omega, HC⟩
              case measure => simp [intOf]; omega
            | false =>
              rw [if_neg (by simp)] at HSF
              clear HC
              go_wp2_with (first | (at_builtin; refine wpList_appD rfl (.tmp 96) (.tmp 104) rfl w.heap.size u11 q ((T.take k).filter (fun d => !gB d.n)) [d] HLQ.out 1 rfl rfl AW1.out ⟨wr.heap.size, 0, none⟩ 1 rfl AW2.out (by omega) (by omega) (by omega) AW3.out ?_; intro a9 c9 w9 HO9 HF9; have HC9 := hidden (AW4.out.snocW HO9.out HF9.out)) | fail)
              rw [← HSF.out] at HC9
              go_roundw
              case rel => exact ⟨k + 1, q + 1, by first | rfl | go_num, by omega, by omega, HC9⟩
              case measure => simp [intOf]; omega
          · obtain rfl : k = j := by omega
            obtain ⟨K, hK⟩ : ∃ K, T.filter (fun d => !gB d.n) = K := ⟨_, rfl⟩
            have HKE : Hid (K = T.filter (fun d => !gB d.n)) := hidden hK.symm
            have hTk : T.take k = T := by rw [show k = T.length by rw [HTL.out, HN.out], List.take_length]
            rw [hTk, hK] at HC
            have hqK : q = K.length := by have := HC.out.l.1; rw [wdsV_len] at this; omega
            subst hqK
            obtain ⟨⟨z1, z2⟩, z3, z4, z5⟩ := HC.out.done hB
            obtain ⟨av, cv, hvv⟩ := own_slice HC.out.q.row
            have z1' : wr.cell? ⟨m, 2, none⟩ = some (.slice av k cv) := by
              rw [z1, hvv]
              show some (Value.slice av T.length cv) = _
              rw [HTL.out, HN.out]
            clear hvv z1
            have HZ3 := hidden z3
            have HZ4 := hidden z4
            have HZ5 := hidden z5
            obtain ⟨a11, c11, hu11⟩ := own_slice HC.out.l
            subst hu11
            have hKl : K.length ≤ 64 := by omega
            clear z3 z4 z5 hTk hK HC HS2 HT HTL HLN HLO
            obtain ⟨M, hM⟩ : ∃ M, K.length = M := ⟨_, rfl⟩
            have HM := hidden hM
            rw [hM] at HZ3 HZ4 HZ5 hKl hqk
            rw [hM]
            clear hM
            go_upto_region 22 with fail
            generalize wr.setCell ⟨m, 2, none⟩ (.slice a11 M c11) = W3 at *
            clear z1' z2
            go_upto_region 23 with fail
            go_loopw [13] (fun i3 w' => ∃ t : Nat, i3 = .int .i64 t ∧ t ≤ M ∧ Hid (w'.ownsRow w.heap.size 3 1 (.slice a7 n c7) n (intsV (numsF gB s.L)) ∧ QAt B w' m (.slice a11 M c11) { s with L := (K.take t).map (keyX K) ++ K.drop t } ∧ Fm w w' (TP m v) (TP m (.slice a11 M c11)))) (fun i3 _ => M - (intOf i3).toNat)
            case atStart => exact ⟨0, rfl, Nat.zero_le _, hidden ⟨HZ3.out, HZ4.out, HZ5.out⟩⟩
            case round =>
              obtain ⟨t, rfl, ht, HR⟩ := hrel
              obtain ⟨KL, hKL⟩ : ∃ KL, (K.take t).map (keyX K) ++ K.drop t = KL := ⟨_, rfl⟩
              have hKN : KL.length = M := by rw [← hKL, mapK_len]; exact HM.out
              have hnm : KL.map (·.n) = K.map (·.n) := by rw [← hKL]; exact mapK_nums (keyX K) (keyX_n K) K t
              by_cases hlt3 : t < M
              · have l1 : (t : Int) < M := by omega
                have l0 : (0 : Int) ≤ t := by omega
                have htl : t < K.length := by rw [HM.out]; exact hlt3
                have htk : t < KL.length := by omega
                obtain ⟨d, hd⟩ : ∃ d, K[t] = d := ⟨_, rfl⟩
                have hKd : KL[t] = d := by
                  rw [← hd]
                  subst hKL
                  exact mapK_at (keyX K) K t htl htk
                have HNX : Hid (KL.set t (keyX K d) = (K.take (t + 1)).map (keyX K) ++ K.drop (t + 1)) := hidden (by rw [← hKL, ← hd]; exact mapK_set (keyX K) K t htl)
                rw [hKL] at HR
                obtain ⟨r0, q0, f0⟩ := HR.out
                obtain ⟨g, rfl⟩ : ∃ g, a11 = some ⟨g, 0, none⟩ := by
                  have r := q0.row
                  rw [show ({ s with L := KL } : Ps).L.length = M from hKN] at r
                  obtain ⟨g, c, hv2, _⟩ := wrow_pos (L := KL) (by rw [hKN]; exact r) (by omega)
                  simp only [Value.slice.injEq] at hv2
                  exact ⟨g, hv2.1⟩
                have hHA := dat_any q0 (by show KL.length ≤ 1000; omega) d.key
                have qw := q0.win (by show List.length _ = _; simp [hKN]) t (by show t < List.length _; simp [hKN]; omega) d (by exact hKd)
                have qrow : wr.ownsRow B 66 8 (.slice (some ⟨g, 0, none⟩) KL.length c11) KL.length (wdsV KL) := by
                  have r := q0.row
                  rw [hKN]
                  rw [show ({ s with L := KL } : Ps).L.length = M from hKN] at r
                  exact r
                have k7 : wr.cell? ⟨g, t * 8 + 7, none⟩ = some (.int .i64 d.key) := by
                  have := (wrow_cells qrow t htk).2.2.2.2.2.2.2
                  rw [hKd] at this
                  exact this
                have k7f : wr.frozen? ⟨g, t * 8 + 7, none⟩ = false := wrow_frozen qrow _
                have c2 := qw.1
                by_cases hh : hasB K d.key = false
                · have hix : ixW KL d.key = -1 := ixW_none (by rw [hasB_nums hnm]; exact hh)
                  rw [show ixW ({ s with L := KL } : Ps).L d.key = -1 from hix] at hHA
                  have HAT := hidden hHA
                  obtain ⟨q1, g1⟩ := q0.setW (by show List.length _ = _; simp [hKN]) t (by show t < List.length _; simp [hKN]; omega) 7 (by omega) (.int .i64 0) d ({ d with key := 0 } : Wd) (by exact hKd) rfl
                  have HEND : Hid ((wr.setCell ⟨g, t * 8 + 7, none⟩ (.int .i64 0)).ownsRow w.heap.size 3 1 (.slice a7 n c7) n (intsV (numsF gB s.L)) ∧ QAt B (wr.setCell ⟨g, t * 8 + 7, none⟩ (.int .i64 0)) m (.slice (some ⟨g, 0, none⟩) M c11) { s with L := (K.take (t + 1)).map (keyX K) ++ K.drop (t + 1) } ∧ Fm w (wr.setCell ⟨g, t * 8 + 7, none⟩ (.int .i64 0)) (TP m v) (TP m (.slice (some ⟨g, 0, none⟩) M c11))) := hidden (by
                    refine ⟨ownsRow_setCell_other r0 (own_two r0 qrow (by decide) g · rfl) _, ?_, f0.trans g1⟩
                    rw [← HNX.out, show keyX K d = ({ d with key := 0 } : Wd) by unfold keyX; rw [if_pos hh]]
                    exact q1)
                  clear q0 q1 f0 g1 HNX HR hKd hd hKL hh hix hHA qw qrow r0 hnm HFIN HZ3 HZ4 HZ5
                  generalize d.key = dk at *
                  go_wp2_with (first | (go_at_call 53; refine HAT.out.mono ?_; rintro e1 w5 ⟨rfl, e2⟩; rw [e2]; clear e2) | fail)
                  go_roundw
                  case rel => exact ⟨t + 1, by first | rfl | go_num, by omega, HEND⟩
                  case measure => simp [intOf]; omega
                · obtain ⟨ii, _, hix⟩ := ixW_has (L := KL) (x := d.key) (by rw [hasB_nums hnm]; simpa using hh)
                  rw [show ixW ({ s with L := KL } : Ps).L d.key = (ii : Int) from hix] at hHA
                  have HAT := hidden hHA
                  have i9 : ¬ (ii : Int) < 0 := by omega
                  have HEND : Hid (wr.ownsRow w.heap.size 3 1 (.slice a7 n c7) n (intsV (numsF gB s.L)) ∧ QAt B wr m (.slice (some ⟨g, 0, none⟩) M c11) { s with L := (K.take (t + 1)).map (keyX K) ++ K.drop (t + 1) } ∧ Fm w wr (TP m v) (TP m (.slice (some ⟨g, 0, none⟩) M c11))) := hidden (by
                    refine ⟨r0, ?_, f0⟩
                    rw [← HNX.out, show keyX K d = d by unfold keyX; rw [if_neg hh]]
                    have : KL.set t d = KL := by rw [← hKd]; exact List.set_getElem_self htk
                    rw [this]
                    exact q0)
                  clear q0 f0 HNX HR hKd hd hKL hh hix hHA qw qrow r0 hnm HFIN HZ3 HZ4 HZ5
                  generalize d.key = dk at *
                  go_wp2_with (first | (go_at_call 53; refine HAT.out.mono ?_; rintro e1 w5 ⟨rfl, e2⟩; rw [e2]; clear e2) | fail)
                  go_roundw
                  case rel => exact ⟨t + 1, by first | rfl | go_num, by omega, HEND⟩
                  case measure => simp [intOf]; omega
              · obtain rfl : t = M := by omega
                have HQ9 := hidden (HFIN.out a7 n c7 wr (.slice a11 t c11) K HNZ.out HKE.out HR.out.1 (by
                  have r := HR.out.2.1
                  rw [show K.take t = K by rw [← HM.out, List.take_length], show K.drop t = [] by rw [← HM.out, List.drop_length], List.append_nil] at r
                  exact r) HR.out.2.2)
                have c2 := HR.out.2.1.cells.2.2.1
                clear HR HFIN HZ3 HZ4 HZ5 hKL hKN hnm
                go_wp2
                exact HQ9.out
end Go.Proofs.Ytilfgbcbodjegaa
