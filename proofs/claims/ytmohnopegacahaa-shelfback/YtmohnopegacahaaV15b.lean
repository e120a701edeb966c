/- Layer 15, the program: Line. -/
import Derived.Test.YtmohnopegacahaaV15a
namespace Go.Proofs.Ytmohnopegacahaa
open Go.RowKit
set_option maxHeartbeats 1000000
set_option maxRecDepth 100000
set_option linter.unusedVariables false

/-- a line of a rest of characters -/
def lineL : List Int → Nat → List Int
  | [], _ => []
  | _ :: _, 0 => []
  | c :: r, k + 1 => if c = 10 then [c] else c :: lineL r k
theorem lineL_none (R : List Int) : lineL R 0 = [] := by cases R <;> rfl
/-- the characters of a stream from its place on -/
def chR (f wd : Bool) (zs : List Int) (p : Nat) : List Int := (List.range' p (gsz f wd zs - p)).map (gch f wd zs)
theorem chR_len (f wd : Bool) (zs : List Int) (p : Nat) : (chR f wd zs p).length = gsz f wd zs - p := by simp [chR]
theorem chR_at (f wd : Bool) (zs : List Int) (p j : Nat) (h : p + j < gsz f wd zs) : (chR f wd zs p).drop j = gch f wd zs (p + j) :: (chR f wd zs p).drop (j + 1) := by
  have hj : j < (chR f wd zs p).length := by rw [chR_len]; omega
  rw [List.drop_eq_getElem_cons hj]
  congr 1
  simp [chR]
theorem chR_end (f wd : Bool) (zs : List Int) (p j : Nat) (h : gsz f wd zs ≤ p + j) : (chR f wd zs p).drop j = [] := List.drop_of_length_le (by rw [chR_len]; omega)
theorem take_snoc {R : List Int} {j : Nat} {c : Int} {r : List Int} (h : R.drop j = c :: r) : R.take (j + 1) = R.take j ++ [c] ∧ R.drop (j + 1) = r := by
  have hj : j < R.length := by
    rcases Nat.lt_or_ge j R.length with q | q
    · exact q
    · rw [List.drop_of_length_le q] at h; cases h
  rw [List.drop_eq_getElem_cons hj] at h
  injection h with h1 h2
  refine ⟨?_, h2⟩
  rw [List.take_add_one, List.getElem?_eq_getElem hj, h1]
  rfl
theorem lineL_more {R : List Int} {M j : Nat} {c : Int} {r : List Int} (h : lineL R M = R.take j ++ lineL (R.drop j) (M - j)) (hj : j < M) (hd : R.drop j = c :: r) (hc : c ≠ 10) : lineL R M = R.take (j + 1) ++ lineL (R.drop (j + 1)) (M - (j + 1)) := by
  obtain ⟨h1, h2⟩ := take_snoc hd
  rw [h, hd, h1, h2]
  obtain ⟨q, hq⟩ : ∃ q, M - j = q + 1 := ⟨M - j - 1, by omega⟩
  rw [hq, show M - (j + 1) = q by omega]
  show _ ++ (if c = 10 then [c] else c :: lineL r q) = _
  rw [if_neg hc]
  simp
theorem lineL_stop {R : List Int} {M j : Nat} {c : Int} {r : List Int} (h : lineL R M = R.take j ++ lineL (R.drop j) (M - j)) (hj : j < M) (hd : R.drop j = c :: r) (hc : c = 10) : lineL R M = R.take (j + 1) := by
  obtain ⟨h1, h2⟩ := take_snoc hd
  rw [h, hd, h1]
  obtain ⟨q, hq⟩ : ∃ q, M - j = q + 1 := ⟨M - j - 1, by omega⟩
  rw [hq]
  show _ ++ (if c = 10 then [c] else c :: lineL r q) = _
  rw [if_pos hc]
theorem wpList_snocW {wr : World} {ops : Array Oper} {rest : List Oper} {o : Oper} {a : Act} {Q : Exit → Act → World → Prop} (hgd : o.guard = none) (s x : Operand)
    (ho : o.op = .call { callee := .builtin .append, args := #[s, x], argTypes := #[23, 23] })
    (base n : Nat) (v : Value) (zs : List Int) (V : Int) (hs : a.eval s = v) (hx : a.eval x = .slice (some ⟨wr.heap.size, 0, none⟩) 1 1) (hown : wr.ownsRow base 32 1 v n (w32V zs)) (hbase : base ≤ wr.heap.size) (hk : n ≤ 4000000)
    (h : ∀ a' c' w', w'.ownsRow base 32 1 (.slice a' (n + 1) c') (n + 1) (w32V (zs ++ [V])) → Hid (Fm wr w' (fun k => v.ownBlock = some k) (fun k => (Value.slice a' (n + 1) c').ownBlock = some k)) → wpList Try.prog ops Q rest (a.put o.dst (.slice a' (n + 1) c')) w') :
    wpList Try.prog ops Q (o :: rest) a (wr.alloc (.cells #[.int .u32 V] 32)) := by
  obtain ⟨i0, hi, hz0, hz1, hz2⟩ := info_parts info32
  have hb : Below wr.heap.size wr (wr.alloc (.cells #[.int .u32 V] 32)) := (Below.refl _ _).alloc (Nat.le_refl _) _
  have hh := heap_alloc_new wr (.cells #[.int .u32 V] 32)
  refine wpList_append_at hgd s x 23 ho base 32 i0 (.int .u32 0) 1 4 Try.underlying23 hi hz0 hz1 hz2 rfl (by decide) v n (w32V zs) hs (own_later hown hb) ⟨wr.heap.size, 0, none⟩ 1 1 [.int .u32 V] hx rfl (fun j u hj => ?_) (by intro u hu; simp at hu; subst hu; rfl) (by unfold maxLen; omega) (by omega) (Nat.le_trans hbase hb.size) (by decide) ?_
  · cases j with
    | zero =>
      simp only [List.getElem?_cons_zero, Option.some.injEq] at hj
      subst hj
      unfold World.cell?
      rw [show ((⟨wr.heap.size, 0, none⟩ : Addr).add 0).block = wr.heap.size from rfl, hh]
      rfl
    | succ j => simp at hj
  · intro v4 w4 ho4 hg4 hat4
    obtain ⟨a', c', e⟩ := own_slice ho4
    subst e
    refine h a' c' w4 (by simpa [w32V] using ho4) (hidden ?_)
    refine (Fm.same hb).trans ((fm_grown hg4 hat4.out).to (fun k e => e) (fun k e => .inr e))

/-- a line that is being read -/
def LnAt (B : Nat) (w : World) (m : Nat) (s : Sh) (i : Nat) (d : Sm) (R : List Int) (j : Nat) (v : Value) (w' : World) : Prop := w'.ownsRow w.heap.size 32 1 v j (w32V (R.take j)) ∧ PtR B w m s i (rdD d j) w'
theorem LnAt.step {B m i j : Nat} {w wr w5 : World} {s : Sh} {d : Sm} {R : List Int} {v : Value} {c : Int} {r : List Int} (h0 : ShAt B w m s) (hk : d.k < w.heap.size) (hi : i < s.S.length) (hkd : d.k = s.S[i].k) (h : LnAt B w m s i d R j v wr) (h5 : PtR B w m s i (rdD d (j + 1)) w5) (f5 : Fm wr w5 (fun k => k = d.k) (fun k => k = d.k)) (hd : R.drop j = c :: r) :
    w5.ownsRow w.heap.size 32 1 v j (w32V (R.take j)) ∧ ∀ a' c' w7, w7.ownsRow w.heap.size 32 1 (.slice a' (j + 1) c') (j + 1) (w32V (R.take j ++ [c])) → Fm w5 w7 (fun k => v.ownBlock = some k) (fun k => (Value.slice a' (j + 1) c').ownBlock = some k) → LnAt B w m s i d R (j + 1) (.slice a' (j + 1) c') w7 := by
  have hlow := h0.low
  have ho5 : w5.ownsRow w.heap.size 32 1 v j (w32V (R.take j)) := own_fm f5 h.1 (fun k e q => by have := (row_lt h.1 e).1; omega)
  refine ⟨ho5, fun a' c' w7 ho7 f7 => ⟨by rw [(take_snoc hd).1]; exact ho7, ?_⟩⟩
  have hT : ∀ k, k < w.heap.size → ¬ v.ownBlock = some k := fun k hk2 e => by have := (row_lt ho5 e).1; omega
  refine ⟨h5.1.fmx f7 (fun k e => hT k (hlow k ((putS_ts hi (by show d.k = _; exact hkd) k).1 e)).2), h5.2.1.fm f7 (hT _ hk), ?_⟩
  exact ⟨f7.os.trans h5.2.2.os, f7.tape.trans h5.2.2.tape, f7.output.trans h5.2.2.output, Nat.le_trans h5.2.2.size f7.size, fun k hk2 hn => (f7.block k (by have := h5.2.2.size; omega) (hT k hk2)).trans (h5.2.2.block k hk2 hn), fun k e => .inl e⟩
set_option maxHeartbeats 4000000 in
theorem line_some {B m : Nat} {s : Sh} {w : World} (h : ShAt B w m s) (ok : OkS s) (i : Nat) (hi : i < s.S.length) (x : Int) (hx : s.S[i].n = x) (hr : rdB s.S[i].md = true) (most : Int) :
    Calls Try.prog 23 #[.pointer (some ⟨m, 0, none⟩), .int .i64 x, .int .i64 most] w fun e w' => ∃ n a c, e = .returned (.tuple #[.slice a n c, .int .i64 0]) ∧ Hid (lineL (chR s.S[i].f s.S[i].wd (zsOf s s.S[i]) s.S[i].pl) most.toNat = (chR s.S[i].f s.S[i].wd (zsOf s s.S[i]) s.S[i].pl).take n ∧ n ≤ (chR s.S[i].f s.S[i].wd (zsOf s s.S[i]) s.S[i].pl).length ∧ LnAt B w m s i s.S[i] (chR s.S[i].f s.S[i].wd (zsOf s s.S[i]) s.S[i].pl) n (.slice a n c) w') := by
  have HA := hidden (readerAt_some h ok i hi x hx hr)
  have HFEW : Hid ((chR s.S[i].f s.S[i].wd (zsOf s s.S[i]) s.S[i].pl).length ≤ 4000000) := hidden (by
    obtain ⟨v, hg, _⟩ := h.ground ok (List.getElem_mem hi)
    have := hg.few s.S[i].wd
    rw [chR_len]; omega)
  have HNS : Hid (∀ j w1, PtR B w m s i (rdD s.S[i] j) w1 → s.S[i].pl + j < gsz s.S[i].f s.S[i].wd (zsOf s s.S[i]) → _) := hidden (fun j w1 hp hl => nextAt_some h ok i hi j hp hl)
  have HNE : Hid (∀ j w1, PtR B w m s i (rdD s.S[i] j) w1 → gsz s.S[i].f s.S[i].wd (zsOf s s.S[i]) ≤ s.S[i].pl + j → _) := hidden (fun j w1 hp hl => nextAt_end h ok i hi j hp hl)
  have HST : Hid (∀ w1, Below w.heap.size w w1 → LnAt B w m s i s.S[i] (chR s.S[i].f s.S[i].wd (zsOf s s.S[i]) s.S[i].pl) 0 (.slice none 0 0) w1) := hidden (fun w1 hb => ⟨World.ownsRow_nil _ _ _ _, PtR.start h i hi hb⟩)
  have HSP : Hid (∀ j wr w5 v c r, LnAt B w m s i s.S[i] (chR s.S[i].f s.S[i].wd (zsOf s s.S[i]) s.S[i].pl) j v wr → PtR B w m s i (rdD s.S[i] (j + 1)) w5 → Fm wr w5 (fun k => k = s.S[i].k) (fun k => k = s.S[i].k) → (chR s.S[i].f s.S[i].wd (zsOf s s.S[i]) s.S[i].pl).drop j = c :: r → _) := hidden (fun j wr w5 v c r a1 a2 a3 a4 => LnAt.step h (h.ss _ (List.getElem_mem hi)).2.lt hi rfl a1 a2 a3 a4)
  have HCA : Hid (∀ j, s.S[i].pl + j < gsz s.S[i].f s.S[i].wd (zsOf s s.S[i]) → _) := hidden (fun j hl => chR_at s.S[i].f s.S[i].wd (zsOf s s.S[i]) s.S[i].pl j hl)
  have HCE : Hid (∀ j, gsz s.S[i].f s.S[i].wd (zsOf s s.S[i]) ≤ s.S[i].pl + j → _) := hidden (fun j hl => chR_end s.S[i].f s.S[i].wd (zsOf s s.S[i]) s.S[i].pl j hl)
  have HLE := hidden (chR_len s.S[i].f s.S[i].wd (zsOf s s.S[i]) s.S[i].pl)
  clear h ok hx hr
  generalize chR s.S[i].f s.S[i].wd (zsOf s s.S[i]) s.S[i].pl = R at *
  generalize gch s.S[i].f s.S[i].wd (zsOf s s.S[i]) = GC at *
  generalize gsz s.S[i].f s.S[i].wd (zsOf s s.S[i]) = GS at *
  generalize s.S[i] = d at *
  generalize d.pl = PL at *
  obtain ⟨KK, hKK⟩ : ∃ K, d.k = K := ⟨_, rfl⟩
  rw [hKK] at HA HNS HNE HSP
  clear hKK
  go_enter Try.func23, Try.ntmps23
  go_upto_region 5 with (first | (go_at_call 38; refine HA.out.mono ?_; rintro e w2 ⟨rfl, hb2⟩; have HB2 := hidden hb2; clear hb2) | fail)
  have HS0 := hidden (HST.out w2 HB2.out)
  clear HA HST HB2
  go_loopw [10] (fun q w' => ∃ (j : Nat) (a : Option Addr) (c : Nat), q = .slice a j c ∧ Hid (lineL R most.toNat = R.take j ++ lineL (R.drop j) (most.toNat - j) ∧ j ≤ R.length ∧ LnAt B w m s i d R j (.slice a j c) w')) (fun q _ => R.length - (match q with | .slice _ j _ => j | _ => 0))
  case atStart => exact ⟨0, none, 0, rfl, hidden ⟨by simp, Nat.zero_le _, HS0.out⟩⟩
  case round =>
    clear HS0
    obtain ⟨j, a, c, rfl, HW⟩ := hrel
    by_cases hlt : (j : Int) < most
    · by_cases hend : PL + j < GS
      · have HN := hidden (HNS.out j wr HW.out.2.2.2 hend)
        have HD := hidden (HCA.out j hend)
        have HSP2 := hidden (fun w5 b1 b2 => HSP.out j wr w5 (.slice a j c) _ _ HW.out.2.2 b1 b2 HD.out)
        have HJ : Hid (j + 1 ≤ R.length ∧ j ≤ 4000000 ∧ j < most.toNat) := hidden (by have h1 := HLE.out; have h2 := HFEW.out; omega)
        generalize GC (PL + j) = V at *
        have HSZ : Hid (w.heap.size ≤ wr.heap.size) := hidden HW.out.2.2.2.2.2.size
        clear HNS HNE HSP HCA HCE HLE HFEW hend
        by_cases h10 : V = 10
        · have HE : Hid (lineL R most.toNat = R.take (j + 1)) := hidden (lineL_stop HW.out.1 HJ.out.2.2 HD.out h10)
          clear HD
          subst h10
          go_wp2_with (first | (go_at_call 39; refine HN.out.mono ?_; rintro e w5 ⟨rfl, H5⟩; obtain ⟨ho5, hstep⟩ := HSP2.out w5 H5.out.1 H5.out.2; have HO5 := hidden ho5; have HSTEP := hidden hstep; clear ho5 hstep; have HSZ5 : Hid (w.heap.size ≤ w5.heap.size) := hidden H5.out.1.2.2.size) | (at_builtin; refine wpList_snocW (wr := w5) rfl _ _ rfl w.heap.size j (.slice a j c) (R.take j) 10 rfl rfl HO5.out HSZ5.out HJ.out.2.1 ?_; intro a7 c7 w7 ho7 f7; have H7 := hidden (HSTEP.out a7 c7 w7 ho7 f7.out); clear ho7 f7) | fail)
          go_ret2
          exact ⟨j + 1, a7, c7, rfl, hidden ⟨HE.out, HJ.out.1, H7.out⟩⟩
        · have HE : Hid (lineL R most.toNat = R.take (j + 1) ++ lineL (R.drop (j + 1)) (most.toNat - (j + 1))) := hidden (lineL_more HW.out.1 HJ.out.2.2 HD.out h10)
          have q10 : (V == 10) = false := by simp [h10]
          clear HD h10
          go_wp2_with (first | (go_at_call 39; refine HN.out.mono ?_; rintro e w5 ⟨rfl, H5⟩; obtain ⟨ho5, hstep⟩ := HSP2.out w5 H5.out.1 H5.out.2; have HO5 := hidden ho5; have HSTEP := hidden hstep; clear ho5 hstep; have HSZ5 : Hid (w.heap.size ≤ w5.heap.size) := hidden H5.out.1.2.2.size) | (at_builtin; refine wpList_snocW (wr := w5) rfl _ _ rfl w.heap.size j (.slice a j c) (R.take j) V rfl rfl HO5.out HSZ5.out HJ.out.2.1 ?_; intro a7 c7 w7 ho7 f7; have H7 := hidden (HSTEP.out a7 c7 w7 ho7 f7.out); clear ho7 f7) | fail)
          go_roundw
          case rel => exact ⟨j + 1, a7, c7, rfl, hidden ⟨HE.out, HJ.out.1, H7.out⟩⟩
          case measure => have := HJ.out; simp; omega
      · have HN := hidden (HNE.out j wr HW.out.2.2.2 (by omega))
        have HF : Hid (lineL R most.toNat = R.take j ∧ j ≤ R.length ∧ ∀ w6, Below wr.heap.size wr w6 → LnAt B w m s i d R j (.slice a j c) w6) := hidden ⟨by
          have h1 := HW.out.1
          rw [HCE.out j (by omega)] at h1
          simpa [lineL] using h1, HW.out.2.1, fun w6 hb => ⟨own_later HW.out.2.2.1 hb, HW.out.2.2.2.later hb⟩⟩
        clear HNS HNE HSP HCA HCE HLE HFEW hend HW
        go_wp2_with (first | (go_at_call 39; refine HN.out.mono ?_; rintro e w5 ⟨rfl, H5⟩) | fail)
        go_ret2
        exact ⟨j, a, c, rfl, hidden ⟨HF.out.1, HF.out.2.1, HF.out.2.2 _ H5.out⟩⟩
    · have HF : Hid (lineL R most.toNat = R.take j ∧ j ≤ R.length ∧ LnAt B w m s i d R j (.slice a j c) wr) := hidden ⟨by
        have h1 := HW.out.1
        rw [show most.toNat - j = 0 by omega, lineL_none, List.append_nil] at h1
        exact h1, HW.out.2.1, HW.out.2.2⟩
      clear HNS HNE HSP HCA HCE HLE HFEW HW
      go_wp2
      go_ret2
      exact ⟨j, a, c, rfl, HF⟩
end Go.Proofs.Ytmohnopegacahaa
