/- Layer 15: lines as lists; rows held against one another; a shelf with one buffer. -/
import Derived.Test.YtmohnopegacahaaV15b
namespace Go.Proofs.Ytmohnopegacahaa
open Go.RowKit
set_option maxHeartbeats 1000000
set_option maxRecDepth 100000
set_option linter.unusedVariables false

theorem same_any (a1 a2 : Option Addr) (n1 n2 c1 c2 : Nat) (xs ys : List Nat) (w : World) (h1 : VRow w a1 n1 xs) (h2 : VRow w a2 n2 ys) (hn : n1 ≤ 100000000) :
    Calls Try.prog 22 #[.slice a1 n1 c1, .slice a2 n2 c2] w fun e w' => e = .returned (.bool (decide (xs = ys))) ∧ Dr w w' := by
  have hl1 := h1.ln
  have hl2 := h2.ln
  by_cases hn12 : n1 = n2
  · subst hn12
    have HV1 := hidden h1
    have HV2 := hidden h2
    obtain ⟨D, hD⟩ : ∃ D, D = decide (xs = ys) := ⟨_, rfl⟩
    rw [← hD]
    have HD := hidden hD
    clear h1 h2 hD
    go_enter Try.func22, Try.ntmps22
    go_wp2
    go_loopw [5] (fun i wr => ∃ k : Nat, k ≤ n1 ∧ i = .int .i64 k ∧ Hid (Dr w wr) ∧ Hid (∀ j, j < k → xs.getD j 0 = ys.getD j 0)) (fun i _ => n1 - (intOf i).toNat)
    case atStart => exact ⟨0, by omega, rfl, Dr.refl w, fun j hj => by omega⟩
    case round =>
      obtain ⟨k, hk, rfl, HDr, HE⟩ := hrel
      by_cases hlt : k < n1
      · have d1 : (k : Int) < (n1 : Int) := by omega
        have d0 : (0 : Int) ≤ (k : Int) := by omega
        obtain ⟨b1, o1, rfl, e1⟩ := HV1.out.cells k hlt
        obtain ⟨b2, o2, rfl, e2⟩ := HV2.out.cells k hlt
        have f1 := cellLater HDr.out.below e1
        have f2 := cellLater HDr.out.below e2
        clear e1 e2
        by_cases heq : xs.getD k 0 = ys.getD k 0
        · have HE2 : Hid (∀ j, j < k + 1 → xs.getD j 0 = ys.getD j 0) := fun j hj => by
            by_cases e : j = k
            · rw [e]; exact heq
            · exact HE.out j (by omega)
          rw [heq] at f1
          clear heq
          generalize ys.getD k 0 = Y at *
          go_wp2
          go_quiet (fail)
          all_goals (try go_wp2)
          go_roundw
          case rel => exact ⟨k + 1, by omega, by go_num, HDr.out.more _, HE2⟩
          case measure => simp [intOf]; omega
        · have hDf : D = false := by
            rw [HD.out]
            exact decide_eq_false (fun e => heq (by rw [e]))
          subst hDf
          have hb2 : ¬ ((xs.getD k 0 : Nat) : Int) = ((ys.getD k 0 : Nat) : Int) := by omega
          have hb : (((xs.getD k 0 : Nat) : Int) == ((ys.getD k 0 : Nat) : Int)) = false := beq_eq_false_iff_ne.2 hb2
          clear heq
          generalize ys.getD k 0 = Y at *
          generalize xs.getD k 0 = X at *
          go_wp2
          go_quiet (fail)
          all_goals (try go_wp2)
          go_ret
          exact ⟨rfl, HDr.out.more _⟩
      · obtain rfl : k = n1 := by omega
        have d1 : ¬ (k : Int) < (k : Int) := by omega
        have hDt : D = true := by
          rw [HD.out]
          refine decide_eq_true (List.ext_getElem (by omega) (fun j h3 h4 => ?_))
          have := HE.out j (by omega)
          simpa [List.getD_eq_getElem?_getD, h3, h4] using this
        subst hDt
        go_wp2
        go_ret
        exact ⟨rfl, HDr.out⟩
  · have hD : decide (xs = ys) = false := decide_eq_false (fun e => by subst e; omega)
    rw [hD]
    have d1 : ((n1 : Int) == (n2 : Int)) = false := by simp; omega
    have d2 : ¬ (n1 : Int) = (n2 : Int) := by omega
    go_enter Try.func22, Try.ntmps22
    go_wp2
    go_ret
    exact ⟨rfl, Dr.refl _⟩

def intsL (xs : List Nat) : List Int := xs.map (fun x : Nat => (x : Int))
theorem ints_getD (xs : List Nat) (i : Nat) : (intsL xs).getD i 0 = ((xs.getD i 0 : Nat) : Int) := by
  unfold intsL
  simp only [List.getD_eq_getElem?_getD, List.getElem?_map]
  cases xs[i]? <;> rfl
theorem ints_take (xs : List Nat) (n : Nat) : intsL (xs.take n) = (intsL xs).take n := by simp [intsL, List.map_take]
theorem ints_drop (xs : List Nat) (n : Nat) : intsL (xs.drop n) = (intsL xs).drop n := by simp [intsL, List.map_drop]
theorem ints_len (xs : List Nat) : (intsL xs).length = xs.length := by simp [intsL]
theorem asL_wide (xs : List Nat) : asL xs true = intsL xs := by simp [asL, intsL, asW]
/-- an owned row of words, as it is looked at -/
theorem vrow_own {B n c : Nat} {w : World} {a : Option Addr} {xs : List Nat} (h : w.ownsRow B 32 1 (.slice a n c) n (w32V (intsL xs))) (hb : ∀ x ∈ xs, x < 4294967296) : VRow w a n xs := by
  have hl : (w32V (intsL xs)).length = n * 1 := h.1
  have hln : xs.length = n := by simpa [w32V, intsL] using hl
  refine ⟨hln, hb, fun i hi => ?_⟩
  rcases h.2 with ⟨h1, h2⟩ | ⟨g, cap, cur, h1, h2, h3, _⟩
  · omega
  · simp only [Value.slice.injEq] at h1
    obtain ⟨rfl, _, rfl⟩ := h1
    refine ⟨g, 0, rfl, ?_⟩
    have := h.cells (g := g) rfl i (.int .u32 (xs.getD i 0 : Nat)) (by
      have hi2 : i < xs.length := by omega
      simp [w32V, intsL, hi2, List.getD_eq_getElem?_getD])
    rw [Addr.add_lit] at this
    exact this
theorem vrow_sub {w : World} {b o n p k : Nat} {xs : List Nat} (h : VRow w (some ⟨b, o, none⟩) n xs) (hk : p + k ≤ n) : VRow w (some ⟨b, o + p, none⟩) k ((xs.drop p).take k) := by
  have hl := h.ln
  refine ⟨by rw [List.length_take, List.length_drop]; omega, fun x hx => h.bd x (List.mem_of_mem_drop (List.mem_of_mem_take hx)), fun i hi => ?_⟩
  obtain ⟨b', o', e, hc⟩ := h.cells (p + i) (by omega)
  simp only [Option.some.injEq, Addr.mk.injEq, and_true] at e
  obtain ⟨rfl, rfl⟩ := e
  refine ⟨b, o + p, rfl, ?_⟩
  rw [show o + p + i = o + (p + i) by omega, hc]
  congr 3
  simp only [List.getD_eq_getElem?_getD, List.getElem?_take, List.getElem?_drop, if_pos hi]
theorem vrow_zero (w : World) (a : Option Addr) : VRow w a 0 [] := ⟨rfl, (fun x hx => by cases hx), fun i hi => by omega⟩
/-- what a line is -/
theorem lineL_spec (R : List Int) (M : Nat) : lineL R M = R.take (lineL R M).length ∧ (lineL R M).length ≤ M ∧ (lineL R M).length ≤ R.length ∧ (∀ k, k + 1 < (lineL R M).length → R.getD k 0 ≠ 10) ∧ ((lineL R M).length < R.length → (lineL R M).length < M → 0 < (lineL R M).length ∧ R.getD ((lineL R M).length - 1) 0 = 10) ∧ (0 < M → 0 < R.length → 0 < (lineL R M).length) := by
  induction R generalizing M with
  | nil => simp [lineL]
  | cons c r ih =>
    cases M with
    | zero => simp [lineL]
    | succ M =>
      by_cases h : c = 10
      · have e : lineL (c :: r) (M + 1) = [c] := by show (if c = 10 then [c] else c :: lineL r M) = _; rw [if_pos h]
        rw [e]
        refine ⟨by simp, by simp, by simp, fun k hk => by simp at hk, fun _ _ => ⟨by simp, by simpa using h⟩, fun _ _ => by simp⟩
      · have e : lineL (c :: r) (M + 1) = c :: lineL r M := by show (if c = 10 then [c] else c :: lineL r M) = _; rw [if_neg h]
        obtain ⟨i1, i2, i3, i4, i5, i6⟩ := ih M
        rw [e]
        refine ⟨by simpa using i1, by simpa using i2, by simpa using i3, fun k hk => ?_, fun h1 h2 => ⟨by simp, ?_⟩, fun _ _ => by simp⟩
        · cases k with
          | zero => simpa using h
          | succ k =>
            have := i4 k (by simp at hk; omega)
            simpa [List.getD_eq_getElem?_getD] using this
        · obtain ⟨j1, j2⟩ := i5 (by simpa using h1) (by simpa using h2)
          obtain ⟨q, hq⟩ : ∃ q, (lineL r M).length = q + 1 := ⟨(lineL r M).length - 1, by omega⟩
          rw [hq] at j2
          simp only [List.length_cons, hq, Nat.add_sub_cancel] at j2 ⊢
          simpa [List.getD_eq_getElem?_getD] using j2
theorem chR_buf (wd : Bool) (zs : List Int) (p : Nat) : chR false wd zs p = zs.drop p := by
  apply List.ext_getElem
  · rw [chR_len, List.length_drop]; rfl
  · intro i h1 h2
    have hl : p + i < zs.length := by rw [List.length_drop] at h2; omega
    simp only [chR, List.getElem_map, List.getElem_range', Nat.one_mul, List.getElem_drop]
    show zs.getD (p + i) 0 = zs[p + i]
    rw [List.getD_eq_getElem?_getD, List.getElem?_eq_getElem hl]; rfl
/-- a shelf with one stream, which lies on a buffer -/
def BP (md : Int) (wd : Bool) (zs : List Int) (pl : Nat) (rd wr : Int) (s : Sh) : Prop := ∃ k g v, s.S = [⟨k, 1, false, g, md, wd, pl, rd, wr⟩] ∧ s.G = [⟨g, v, zs⟩] ∧ s.F = []
theorem BP.at_ {md : Int} {wd : Bool} {zs : List Int} {pl : Nat} {rd wr : Int} {s : Sh} (h : BP md wd zs pl rd wr s) : ∃ hi : 0 < s.S.length, s.S[0].n = 1 ∧ s.S[0].f = false ∧ s.S[0].md = md ∧ s.S[0].wd = wd ∧ s.S[0].pl = pl ∧ s.S[0].rd = rd ∧ s.S[0].wr = wr ∧ zsOf s s.S[0] = zs := by
  obtain ⟨k, g, v, hS, hG, hF⟩ := h
  have hi : 0 < s.S.length := by rw [hS]; simp
  have hd : s.S[0] = ⟨k, 1, false, g, md, wd, pl, rd, wr⟩ := by simp only [hS]; rfl
  refine ⟨hi, by rw [hd], by rw [hd], by rw [hd], by rw [hd], by rw [hd], by rw [hd], by rw [hd], ?_⟩
  rw [hd]; unfold zsOf; rw [if_neg (by simp), hG]; unfold grG; simp
theorem BP.put {md : Int} {wd : Bool} {zs : List Int} {pl : Nat} {rd wr : Int} {s : Sh} (h : BP md wd zs pl rd wr s) (hi : 0 < s.S.length) (pl' : Nat) (rd' : Int) : BP md wd zs pl' rd' wr (putS s 0 { s.S[0] with pl := pl', rd := rd' }) := by
  obtain ⟨k, g, v, hS, hG, hF⟩ := h
  have hd : s.S[0] = ⟨k, 1, false, g, md, wd, pl, rd, wr⟩ := by simp only [hS]; rfl
  refine ⟨k, g, v, ?_, hG, hF⟩
  show s.S.set 0 _ = _
  rw [hd, hS]
  rfl
theorem lv_new0 (w : World) (most : Int) (h : 0 ≤ most ∧ most ≤ 1048576) : Calls Try.prog 9 #[.int .i64 most] w fun e w' => e = .returned (.tuple #[.pointer (some ⟨w.heap.size, 0, none⟩), .int .i64 0]) ∧ Hid (Lv w.heap.size w w' (fun s => s = newS most)) :=
  (new_any most w h).mono (fun e w' hh => ⟨hh.1, hidden ⟨hh.2.out.2, Nat.le_refl _, _, hh.2.out.1, new_ok most h, rfl⟩⟩)
theorem lv_buf {B : Nat} {w w1 : World} {most : Int} (h : Lv B w w1 (fun s => s = newS most)) (a : Option Addr) (xs : List Nat) (n c : Nat) (hr : VRow w1 a n xs) (hx : n ≤ 4096) (md : Int) (wide : Bool) (hm : md = 1 ∨ md = 2 ∨ md = 3) :
    Calls Try.prog 21 #[.pointer (some ⟨B, 0, none⟩), .slice a n c, .int .i64 md, .bool wide] w1 fun e w' => e = .returned (.tuple #[.int .i64 1, .int .i64 0]) ∧ Hid (Lv B w w' (BP md wide (asL xs wide) 0 0 0)) := by
  obtain ⟨hb, hB, s, h2, ok, hP⟩ := h
  have hP : s = newS most := hP
  have hln := hr.ln
  subst hln
  have hS : s.S = [] := by rw [hP]; rfl
  have hl : s.last = 0 := by rw [hP]; rfl
  have := buffer_any h2 ok (Nat.le_trans hB hb.size) (by rw [hS]; decide) (by rw [hl]; decide) a xs c hr hx md wide hm
  rw [hl] at this
  refine this.mono ?_
  rintro e w' ⟨rfl, H⟩
  obtain ⟨b, v, k, v', g1, g2, g3⟩ := H.out
  refine ⟨rfl, hidden (Lv.fm hb hB h2 g3 g1 g2 ⟨k, b, v, ?_, ?_, ?_⟩)⟩
  · show s.S ++ [_] = _
    rw [hS, hl]; rfl
  · show s.G ++ [_] = _
    rw [hP]; rfl
  · show s.F = _
    rw [hP]; rfl
theorem lv_line {B : Nat} {w w1 : World} {md : Int} {wd : Bool} {xs : List Nat} {pl : Nat} {rd wr : Int} (h : Lv B w w1 (BP md wd (intsL xs) pl rd wr)) (hb32 : ∀ x ∈ xs, x < 4294967296) (hm : rdB md = true) (most : Int) :
    Calls Try.prog 23 #[.pointer (some ⟨B, 0, none⟩), .int .i64 1, .int .i64 most] w1 fun e w' => ∃ n a c, e = .returned (.tuple #[.slice a n c, .int .i64 0]) ∧ Hid ((lineL (intsL (xs.drop pl)) most.toNat).length = n ∧ n ≤ xs.length - pl ∧ VRow w' a n ((xs.drop pl).take n) ∧ Lv B w w' (BP md wd (intsL xs) (pl + n) (upI rd n) wr)) := by
  obtain ⟨hb, hB, s, h2, ok, hP⟩ := h
  obtain ⟨hi, e1, e2, e3, e4, e5, e6, e7, e8⟩ := hP.at_
  have := line_some h2 ok 0 hi 1 e1 (by rw [e3]; exact hm) most
  rw [e2, e4, e5, e8, chR_buf, ← ints_drop] at this
  refine this.mono ?_
  rintro e w' ⟨n, a, c, rfl, H⟩
  obtain ⟨q1, q2, q3, q4⟩ := H.out
  refine ⟨n, a, c, rfl, hidden ⟨?_, ?_, ?_, ?_⟩⟩
  · rw [q1, List.length_take]; omega
  · rw [ints_len, List.length_drop] at q2; exact q2
  · rw [← ints_take] at q3
    exact vrow_own q3 (fun x hx => hb32 x (List.mem_of_mem_drop (List.mem_of_mem_take hx)))
  · have hq : rdD s.S[0] n = { s.S[0] with pl := pl + n, rd := upI rd n } := by unfold rdD; rw [e5, e6]
    refine Lv.fm hb hB h2 (q4.ts hi rfl) q4.1 (putS_ok ok 0 hi _ rfl rfl rfl rfl) ?_
    rw [hq]
    exact hP.put hi _ _
end Go.Proofs.Ytmohnopegacahaa
