/- Layer 18: inClass, isClass, hidden, barred, tab, shown: the leaves assembled. Layer 18: tab, shown, prop, names, of, addr, length, value, has, do: the leaves assembled. Layer 18: of, prop, addr, length, value, has, do: the leaves assembled. Layer 18: Do: of any memory, params, function, arguments; Slip. -/
import Derived.Test.YtpgppdkbkkljnaaA18B
import Derived.Test.YtpgppdkbkkljnaaA18C
import Derived.Test.YtpgppdkbkkljnaaA18D
import Derived.Test.YtpgppdkbkkljnaaF13B
import Derived.Test.YtpgppdkbkkljnaaA18E
import Derived.Test.YtpgppdkbkkljnaaA18F
import Derived.Test.YtpgppdkbkkljnaaA18G
namespace Go.Proofs.Ytpgppdkbkkljnaa
open Go.RowKit
set_option maxHeartbeats 1000000
set_option maxRecDepth 100000
set_option linter.unusedVariables false

/-- what a function with a number answers -/
def NAn (v : An) (w : World) (r : Ending) (w' : World) : Prop := r = .returned (.tuple #[.int .u32 v.x, .agg #[.int .i64 v.s, .int .i64 v.e]]) ∧ Below w.heap.size w w'
/-- .. with a Boolean -/
def BAn (v : An) (w : World) (r : Ending) (w' : World) : Prop := r = .returned (.tuple #[.bool (decide (v.x = 1)), .agg #[.int .i64 v.s, .int .i64 v.e]]) ∧ Below w.heap.size w w'
theorem An.zero {A : An} (hf : A.fit) (h : ¬ (A.s = 0 ∧ A.e = 0)) : A = ⟨0, A.s, A.e⟩ := by
  obtain ⟨x, s, e⟩ := A
  have := hf.z h
  simp only at this
  subst this
  rfl
theorem An.good {A : An} (h : A.s = 0 ∧ A.e = 0) : A = ⟨A.x, 0, 0⟩ := by
  obtain ⟨x, s, e⟩ := A
  obtain ⟨h1, h2⟩ := h
  simp only at h1 h2
  subst h1 h2
  rfl
theorem inclass18 (j : Jb) (ok : j.ok) (m : Nat) (pa : Option Addr) (pc a : Nat) (ha : a < 4294967296) (w : World) (J : JAt w j m pa) :
    Calls Try.prog 81 #[lkV m pa pc j.att, .int .u32 a] w (BAn (icA j a) w) := by
  obtain ⟨pb, po, rfl, _⟩ := J.par
  have hat := ok.att
  have e1 : ((a : Int) + 13 + (j.att : Int)) % 4294967296 = ((wr32 (a + 13 + j.att) : Nat) : Int) := by unfold wr32; omega
  have hc : ∀ w, JAt w j m (some ⟨pb, po, none⟩) → _ := fun w J => read18 j ok m (some ⟨pb, po, none⟩) pc (wr32 (a + 13 + j.att)) 4 (.inr (.inr rfl)) (wr32_lt _) w J
  have hV : icA j a = (rdA j.bs (wr32 (a + 13 + j.att)) 4).go fun x => one18 (decide (x = j.p 2)) := rfl
  have hs := rdA_s j.bs (wr32 (a + 13 + j.att)) 4
  have hf := rd_fit ok.okb (wr32 (a + 13 + j.att)) 4 (.inr (.inr rfl))
  generalize wr32 (a + 13 + j.att) = AD at *
  generalize rdA j.bs AD 4 = R at *
  generalize icA j a = V at *
  subst hV
  obtain ⟨x, s, e⟩ := R
  simp only at hs
  subst hs
  by_cases h0 : e = 0
  · subst h0
    by_cases hx : x = j.p 2
    · refine (ic_N18e j m pb po pc w J a AD x 0 e1 hc hx rfl).mono fun r w' h => ?_
      simpa [BAn, An.go, one18, hx] using h
    · refine (ic_N18g j m pb po pc w J a AD x 0 e1 hc hx).mono fun r w' h => ?_
      simpa [BAn, An.go, one18, hx] using h
  · by_cases hx : x = j.p 2
    · refine (ic_N18f j m pb po pc w J a AD x e e1 hc hx h0).mono fun r w' h => ?_
      simpa [BAn, An.go, one18, hx, h0] using h
    · refine (ic_N18g j m pb po pc w J a AD x e e1 hc hx).mono fun r w' h => ?_
      simpa [BAn, An.go, one18, hx, h0] using h
theorem isclass18 (j : Jb) (ok : j.ok) (m : Nat) (pa : Option Addr) (pc a : Nat) (ha : a < 4294967296) (w : World) (J : JAt w j m pa) :
    Calls Try.prog 80 #[lkV m pa pc j.att, .int .u32 a] w (BAn (iclA j a) w) := by
  obtain ⟨pb, po, rfl, _⟩ := J.par
  have hc : ∀ w, JAt w j m (some ⟨pb, po, none⟩) → _ := fun w J => inclass18 j ok m (some ⟨pb, po, none⟩) pc a ha w J
  have hV : iclA j a = (icA j a).go fun c => one18 (decide (c = 1) || (decide (a = j.p 2) || (decide (a = j.p 5) || (decide (a = j.p 4) || decide (a = j.p 3))))) := rfl
  have hf := ic_fit ok a
  generalize icA j a = R at *
  generalize iclA j a = V at *
  subst hV
  by_cases h0 : R.s = 0 ∧ R.e = 0
  · rw [An.good h0] at hc ⊢
    generalize R.x = x at *
    by_cases h1 : x = 1
    · subst h1
      refine (icl_2 j m pb po pc w J a hc).mono fun r w' h => ?_
      simpa [BAn, An.go, one18] using h
    · have hc' : ∀ w, JAt w j m (some ⟨pb, po, none⟩) → _ := fun w J => (hc w J).mono fun r w' h => by simpa [BAn, h1] using h
      by_cases k2 : a = j.p 2
      · refine (icl_3 j m pb po pc w J a k2 hc').mono fun r w' h => ?_
        simpa [BAn, An.go, one18, k2] using h
      by_cases k5 : a = j.p 5
      · refine (icl_4 j m pb po pc w J a k2 k5 hc').mono fun r w' h => ?_
        simpa [BAn, An.go, one18, k5] using h
      by_cases k4 : a = j.p 4
      · refine (icl_5 j m pb po pc w J a k2 k5 k4 hc').mono fun r w' h => ?_
        simpa [BAn, An.go, one18, k4] using h
      by_cases k3 : a = j.p 3
      · refine (icl_6 j m pb po pc w J a k2 k5 k4 k3 hc').mono fun r w' h => ?_
        simpa [BAn, An.go, one18, k3] using h
      · refine (icl_7 j m pb po pc w J a k2 k5 k4 k3 hc').mono fun r w' h => ?_
        simpa [BAn, An.go, one18, h1, k2, k3, k4, k5] using h
  · have hz := hf.z h0
    have hc' : ∀ w, JAt w j m (some ⟨pb, po, none⟩) → _ := fun w J => (hc w J).mono fun r w' h => by simpa [BAn, hz] using h
    refine (icl_1 j m pb po pc w J a R.s R.e h0 hc').mono fun r w' h => ?_
    rw [go_bad h0]
    simpa [BAn] using h
theorem hidden18 (j : Jb) (ok : j.ok) (m : Nat) (pa : Option Addr) (pc a b : Nat) (ha : a < 4294967296) (hb : b < 4294967296) (w : World) (J : JAt w j m pa) :
    Calls Try.prog 89 #[lkV m pa pc j.att, .int .u32 a, .int .u32 b] w (BAn (hidA j a b) w) := by
  obtain ⟨pb, po, rfl, _⟩ := J.par
  have hc : ∀ w, JAt w j m (some ⟨pb, po, none⟩) → _ := fun w J => inclass18 j ok m (some ⟨pb, po, none⟩) pc a ha w J
  have hp : ∀ w, JAt w j m (some ⟨pb, po, none⟩) → _ := fun w J => isprop18 j ok m (some ⟨pb, po, none⟩) pc b hb w J
  have hV : hidA j a b = (icA j a).go fun c => one18 (decide (c = 1) && !clsP j b) := rfl
  have hf := ic_fit ok a
  generalize icA j a = R at *
  generalize hidA j a b = V at *
  subst hV
  by_cases h0 : R.s = 0 ∧ R.e = 0
  · rw [An.good h0] at hc ⊢
    generalize R.x = x at *
    by_cases h1 : x = 1
    · subst h1
      refine (hid_1 j m pb po pc w J a b (clsP j b) hc hp).mono fun r w' h => ?_
      cases hq : clsP j b <;> rw [hq] at h <;> simpa [BAn, An.go, one18] using h
    · have hc' : ∀ w, JAt w j m (some ⟨pb, po, none⟩) → _ := fun w J => (hc w J).mono fun r w' h => by simpa [BAn, h1] using h
      refine (hid_2 j m pb po pc w J a b 0 0 hc').mono fun r w' h => ?_
      simpa [BAn, An.go, one18, h1] using h
  · have hz := hf.z h0
    have hc' : ∀ w, JAt w j m (some ⟨pb, po, none⟩) → _ := fun w J => (hc w J).mono fun r w' h => by simpa [BAn, hz] using h
    refine (hid_2 j m pb po pc w J a b R.s R.e hc').mono fun r w' h => ?_
    rw [go_bad h0]
    simpa [BAn] using h
theorem barred18 (j : Jb) (ok : j.ok) (m : Nat) (pa : Option Addr) (pc a p : Nat) (ha : a < 4294967296) (hp : p < 4294967296) (w : World) (J : JAt w j m pa) :
    Calls Try.prog 90 #[lkV m pa pc j.att, .int .u32 a, .int .u32 p] w (BAn (barA j a p) w) := by
  obtain ⟨pb, po, rfl, _⟩ := J.par
  have hc : ∀ w, JAt w j m (some ⟨pb, po, none⟩) → _ := fun w J => read18 j ok m (some ⟨pb, po, none⟩) pc (j.p 6) 4 (.inr (.inr rfl)) (ok.p 6) w J
  have h9 : ∀ w, JAt w j m (some ⟨pb, po, none⟩) → _ := fun w J => read18 j ok m (some ⟨pb, po, none⟩) pc (wr32 (p + 9)) 1 (.inl rfl) (wr32_lt _) w J
  have e9 : ((p : Int) + 9) % 4294967296 = ((wr32 (p + 9) : Nat) : Int) := by unfold wr32; omega
  have hV : barA j a p = (rdA j.bs (j.p 6) 4).go fun s => if s = a then just 0 else (rdA j.bs (wr32 (p + 9)) 1).go fun f => one18 (decide (f % 2 ≠ 0)) := rfl
  have hs := rdA_s j.bs (j.p 6) 4
  have hs9 := rdA_s j.bs (wr32 (p + 9)) 1
  have hf9 := rd_fit ok.okb (wr32 (p + 9)) 1 (.inl rfl)
  generalize wr32 (p + 9) = p9 at *
  generalize rdA j.bs (j.p 6) 4 = R at *
  generalize rdA j.bs p9 1 = F at *
  generalize barA j a p = V at *
  subst hV
  obtain ⟨x, s, e⟩ := R
  simp only at hs
  subst hs
  obtain ⟨f, s9, fe⟩ := F
  simp only at hs9
  subst hs9
  by_cases h0 : e = 0
  · subst h0
    by_cases hx : x = a
    · refine (bar_2 j m pb po pc w J a p x hx hc).mono fun r w' h => ?_
      simpa [BAn, An.go, just, hx] using h
    · by_cases hf : f % 2 = 0
      · refine (bar_3 j m pb po pc w J a p x p9 f fe hx e9 hf hc h9).mono fun r w' h => ?_
        by_cases hfe : fe = 0
        · simpa [BAn, An.go, one18, hx, hfe, hf] using h
        · simpa [BAn, An.go, one18, hx, hfe, hf] using h
      · by_cases hfe : fe = 0
        · refine (bar_4 j m pb po pc w J a p x p9 f fe hx e9 hf hc h9).mono fun r w' h => ?_
          simpa [BAn, An.go, one18, hx, hfe, hf] using h
        · have := hf9.z (fun h => hfe h.2)
          simp only at this
          subst this
          exact absurd rfl hf
  · refine (bar_1 j m pb po pc w J a p x e h0 hc).mono fun r w' h => ?_
    simpa [BAn, An.go, h0] using h
end Go.Proofs.Ytpgppdkbkkljnaa
namespace Go.Proofs.Ytpgppdkbkkljnaa
open Go.RowKit
set_option maxHeartbeats 1000000
set_option maxRecDepth 100000
set_option linter.unusedVariables false

theorem go_one1 {r : An} {k : Nat → An} (h : ∀ x, (k x).x = 0 ∨ (k x).x = 1) : (r.go k).x = 0 ∨ (r.go k).x = 1 := by
  unfold An.go
  split
  · exact h _
  · exact .inl rfl
theorem one_or (b : Bool) : (one18 b).x = 0 ∨ (one18 b).x = 1 := by cases b <;> simp [one18]
theorem ic_one (j : Jb) (a : Nat) : (icA j a).x = 0 ∨ (icA j a).x = 1 := go_one1 fun _ => one_or _
theorem icl_one (j : Jb) (a : Nat) : (iclA j a).x = 0 ∨ (iclA j a).x = 1 := go_one1 fun _ => one_or _
theorem ite_one {c : Prop} [Decidable c] {a b : An} (h1 : a.x = 0 ∨ a.x = 1) (h2 : b.x = 0 ∨ b.x = 1) : (if c then a else b).x = 0 ∨ (if c then a else b).x = 1 := by
  split
  · exact h1
  · exact h2
theorem namF_one (j : Jb) (row b : Nat) : ∀ f i, (namF j row b f i).x = 0 ∨ (namF j row b f i).x = 1
  | 0, _ => .inl rfl
  | f + 1, i => go_one1 fun _ => ite_one (.inr rfl) (namF_one j row b f (i + 1))
theorem nam_one (j : Jb) (a b : Nat) : (namA j a b).x = 0 ∨ (namA j a b).x = 1 := go_one1 fun _ => ite_one (.inl rfl) (go_one1 fun _ => ite_one (.inl rfl) (go_one1 fun _ => namF_one _ _ _ _ _))
theorem obj_one (j : Jb) (a b : Nat) : (objA j a b).x = 0 ∨ (objA j a b).x = 1 := ite_one (icl_one j a) (ite_one (go_one1 fun _ => one_or _) (ite_one (.inl rfl) (go_one1 fun _ => ite_one (.inl rfl) (nam_one j a b))))
theorem wr_tab (a att : Nat) (ha : a < 4294967296) (hat : att < 4294967296) : ((a : Int) + 4 * ((3 + (att : Int) / 4) % 4294967296)) % 4294967296 = ((wr32 (a + 4 * (3 + att / 4)) : Nat) : Int) := by unfold wr32; omega
theorem tab18 (j : Jb) (ok : j.ok) (m : Nat) (pa : Option Addr) (pc a b : Nat) (ha : a < 4294967296) (hb : b < 4294967296) (w : World) (J : JAt w j m pa) :
    Calls Try.prog 49 #[lkV m pa pc j.att, .int .u32 a, .int .u32 b] w (NAn (tabA j a b) w) := by
  obtain ⟨pb, po, rfl, _⟩ := J.par
  have hr : ∀ w, JAt w j m (some ⟨pb, po, none⟩) → _ := fun w J => region18 j ok m (some ⟨pb, po, none⟩) pc a ha w J
  have hV : tabA j a b = if regJ j a ≠ 1 then ⟨0, 1, 0⟩ else (rdA j.bs (wr32 (a + 4 * (3 + j.att / 4))) 4).go fun t => if t = 0 then just 0 else (rdA j.bs t 4).go fun n => binJ j t b n := rfl
  have e1 := wr_tab a j.att ha ok.att
  have hc : ∀ w, JAt w j m (some ⟨pb, po, none⟩) → _ := fun w J => read18 j ok m (some ⟨pb, po, none⟩) pc (wr32 (a + 4 * (3 + j.att / 4))) 4 (.inr (.inr rfl)) (wr32_lt _) w J
  have hs := rdA_s j.bs (wr32 (a + 4 * (3 + j.att / 4))) 4
  have hf := rd_fit ok.okb (wr32 (a + 4 * (3 + j.att / 4))) 4 (.inr (.inr rfl))
  generalize wr32 (a + 4 * (3 + j.att / 4)) = AD at *
  generalize rdA j.bs AD 4 = R at *
  generalize tabA j a b = V at *
  subst hV
  by_cases h1 : regJ j a = 1
  · rw [h1] at hr
    rw [if_neg (fun h => h h1)]
    obtain ⟨t, s, te⟩ := R
    simp only at hs
    subst hs
    by_cases h0 : te = 0
    · subst h0
      by_cases ht : t = 0
      · subst ht
        refine (tab_3 j m pb po pc w J a b AD e1 hr hc).mono fun r w' h => ?_
        simpa [NAn, An.go, just] using h
      · have htl := hf.lt
        simp only at htl
        have hn : ∀ w, JAt w j m (some ⟨pb, po, none⟩) → _ := fun w J => read18 j ok m (some ⟨pb, po, none⟩) pc t 4 (.inr (.inr rfl)) htl w J
        have hns := rdA_s j.bs t 4
        have hnf := rd_fit ok.okb t 4 (.inr (.inr rfl))
        have hgo : (An.go ⟨t, 0, 0⟩ fun t => if t = 0 then just 0 else (rdA j.bs t 4).go fun n => binJ j t b n) = (rdA j.bs t 4).go fun n => binJ j t b n := by simp [An.go, ht]
        rw [hgo]
        generalize rdA j.bs t 4 = N at *
        obtain ⟨n, s, ne⟩ := N
        simp only at hns
        subst hns
        by_cases hne : ne = 0
        · subst hne
          have hnl := hnf.lt
          simp only at hnl
          have hok : (srJ t b n).ok := ⟨hb, by show 2 < _; decide, wr32_lt _, by show 10 < _; decide, hnl, by show 0 < _; decide, by show 0 < _; decide, by show 0 < _; decide⟩
          have hbin : ∀ w, JAt w j m (some ⟨pb, po, none⟩) → _ := fun w J => bin_any m j.bs (srJ t b n) hok w (J.mrd ok)
          have e4 : ((t : Int) + 4) % 4294967296 = ((wr32 (t + 4) : Nat) : Int) := by unfold wr32; omega
          refine (tab_5 j m pb po pc w J a b AD t (wr32 (t + 4)) n (binV j.bs (srJ t b n)).1 (binV j.bs (srJ t b n)).2 e1 e4 ht hr hc hn hbin).mono fun r w' h => ?_
          simpa [NAn, An.go, binJ] using h
        · refine (tab_4 j m pb po pc w J a b AD t n ne e1 ht hne hr hc hn).mono fun r w' h => ?_
          simpa [NAn, An.go, hne] using h
    · refine (tab_2 j m pb po pc w J a b AD t te e1 h0 hr hc).mono fun r w' h => ?_
      simpa [NAn, An.go, h0] using h
  · rw [if_pos h1]
    refine (tab_1 j m pb po pc w J a b (regJ j a) h1 hr).mono fun r w' h => ?_
    simpa [NAn] using h
theorem shown18 (j : Jb) (ok : j.ok) (m : Nat) (pa : Option Addr) (pc a b : Nat) (own : Bool) (ha : a < 4294967296) (hb : b < 4294967296) (w : World) (J : JAt w j m pa) :
    Calls Try.prog 79 #[lkV m pa pc j.att, .int .u32 a, .int .u32 b, .bool own] w (NAn (shoA j a b own) w) := by
  obtain ⟨pb, po, rfl, _⟩ := J.par
  have ht : ∀ w, JAt w j m (some ⟨pb, po, none⟩) → _ := fun w J => tab18 j ok m (some ⟨pb, po, none⟩) pc a b ha hb w J
  have hh : ∀ w, JAt w j m (some ⟨pb, po, none⟩) → _ := fun w J => hidden18 j ok m (some ⟨pb, po, none⟩) pc a b ha hb w J
  have hr : ∀ p, p < 4294967296 → ∀ w, JAt w j m (some ⟨pb, po, none⟩) → _ := fun p hp w J => barred18 j ok m (some ⟨pb, po, none⟩) pc a p ha hp w J
  have hV : shoA j a b own = (tabA j a b).go fun p => if p = 0 then just 0 else (if own then just 0 else hidA j a b).go fun h => if h = 1 then just 0 else (barA j a p).go fun x => if x = 1 then just 0 else just p := rfl
  have hf := tab_fit ok a b
  have hhf := hid_fit ok a b
  have hbf := fun p => bar_fit ok a p
  generalize hTT : tabA j a b = T at *
  generalize hHH : hidA j a b = H at *
  generalize shoA j a b own = V at *
  subst hV
  by_cases h0 : T.s = 0 ∧ T.e = 0
  · rw [An.good h0] at ht ⊢
    have hxl := hf.lt
    generalize T.x = x at *
    by_cases hx : x = 0
    · subst hx
      cases own
      · refine (sho_2f j m pb po pc w J a b ht).mono fun r w' h => ?_
        simpa [NAn, An.go, just] using h
      · refine (sho_2t j m pb po pc w J a b ht).mono fun r w' h => ?_
        simpa [NAn, An.go, just] using h
    · have hb' := hr x hxl
      have hbx := hbf x
      generalize hBB : barA j a x = B at *
      cases own
      · by_cases k0 : H.s = 0 ∧ H.e = 0
        · rw [An.good k0] at hh ⊢
          generalize H.x = y at *
          by_cases hy : y = 1
          · subst hy
            refine (sho_7 j m pb po pc w J a b x hx ht hh).mono fun r w' h => ?_
            simpa [NAn, An.go, just, hx] using h
          · have hh' : ∀ w, JAt w j m (some ⟨pb, po, none⟩) → _ := fun w J => (hh w J).mono fun r w' h => by simpa [BAn, hy] using h
            by_cases b0 : B.s = 0 ∧ B.e = 0
            · have hBz := hBB.trans (An.good b0)
              rw [An.good b0] at hb'
              generalize B.x = z at *
              by_cases hz : z = 1
              · subst hz
                refine (sho_4f j m pb po pc w J a b x hx ht hh' hb').mono fun r w' h => ?_
                simpa [NAn, An.go, just, hx, hy, hBz] using h
              · have hb2 : ∀ w, JAt w j m (some ⟨pb, po, none⟩) → _ := fun w J => (hb' w J).mono fun r w' h => by simpa [BAn, hz] using h
                refine (sho_5f j m pb po pc w J a b x hx ht hh' hb2).mono fun r w' h => ?_
                simpa [NAn, An.go, just, hx, hy, hz, hBz] using h
            · have hz := hbx.z b0
              have hb2 : ∀ w, JAt w j m (some ⟨pb, po, none⟩) → _ := fun w J => (hb' w J).mono fun r w' h => by simpa [BAn, hz] using h
              refine (sho_3f j m pb po pc w J a b x B.s B.e hx b0 ht hh' hb2).mono fun r w' h => ?_
              have hBz := hBB.trans (An.zero hbx b0)
              simpa [NAn, An.go, just, hx, hy, hBz, b0] using h
        · have hz := hhf.z k0
          have hh' : ∀ w, JAt w j m (some ⟨pb, po, none⟩) → _ := fun w J => (hh w J).mono fun r w' h => by simpa [BAn, hz] using h
          refine (sho_6 j m pb po pc w J a b x hx H.s H.e k0 ht hh').mono fun r w' h => ?_
          simpa [NAn, An.go, hx, k0] using h
      · by_cases b0 : B.s = 0 ∧ B.e = 0
        · have hBz := hBB.trans (An.good b0)
          rw [An.good b0] at hb'
          generalize B.x = z at *
          by_cases hz : z = 1
          · subst hz
            refine (sho_4t j m pb po pc w J a b x hx ht hb').mono fun r w' h => ?_
            simpa [NAn, An.go, just, hx, hBz] using h
          · have hb2 : ∀ w, JAt w j m (some ⟨pb, po, none⟩) → _ := fun w J => (hb' w J).mono fun r w' h => by simpa [BAn, hz] using h
            refine (sho_5t j m pb po pc w J a b x hx ht hb2).mono fun r w' h => ?_
            simpa [NAn, An.go, just, hx, hz, hBz] using h
        · have hz := hbx.z b0
          have hb2 : ∀ w, JAt w j m (some ⟨pb, po, none⟩) → _ := fun w J => (hb' w J).mono fun r w' h => by simpa [BAn, hz] using h
          refine (sho_3t j m pb po pc w J a b x B.s B.e hx b0 ht hb2).mono fun r w' h => ?_
          have hBz := hBB.trans (An.zero hbx b0)
          simpa [NAn, An.go, just, hx, hBz, b0] using h
  · cases own
    · refine (sho_1f j m pb po pc w J a b T.x T.s T.e h0 ht).mono fun r w' h => ?_
      rw [go_bad h0]; exact h
    · refine (sho_1t j m pb po pc w J a b T.x T.s T.e h0 ht).mono fun r w' h => ?_
      rw [go_bad h0]; exact h
theorem proplow18 (j : Jb) (ok : j.ok) (m : Nat) (pa : Option Addr) (pc a b : Nat) (ha : a < 4294967296) (hb : b < 65536) (w : World) (J : JAt w j m pa) :
    Calls Try.prog 68 #[lkV m pa pc j.att, .int .u32 a, .int .u32 b] w (NAn (shoA j a b false) w) := by
  obtain ⟨pb, po, rfl, _⟩ := J.par
  exact pro_1 j m pb po pc w J a b _ _ _ hb (fun w J => shown18 j ok m (some ⟨pb, po, none⟩) pc a b false ha (by omega) w J)
theorem names18 (j : Jb) (ok : j.ok) (m : Nat) (pa : Option Addr) (pc a b : Nat) (ha : a < 4294967296) (hb : b < 4294967296) (w : World) (J : JAt w j m pa) :
    Calls Try.prog 82 #[lkV m pa pc j.att, .int .u32 a, .int .u32 b] w (BAn (namA j a b) w) := by
  obtain ⟨pb, po, rfl, _⟩ := J.par
  have hp : ∀ w, JAt w j m (some ⟨pb, po, none⟩) → _ := fun w J => proplow18 j ok m (some ⟨pb, po, none⟩) pc a 2 ha (by decide) w J
  have hV : namA j a b = (shoA j a 2 false).go fun p => if p = 0 then just 0 else (rdA j.bs (wr32 (p + 4)) 4).go fun row => if row = 0 then just 0 else (rdA j.bs (wr32 (p + 2)) 2).go fun n => namF j row b n 0 := rfl
  have hf := sho_fit ok a 2 false
  generalize shoA j a 2 false = T at *
  generalize namA j a b = V at *
  subst hV
  by_cases h0 : T.s = 0 ∧ T.e = 0
  · rw [An.good h0] at hp ⊢
    have hxl := hf.lt
    generalize T.x = x at *
    by_cases hx : x = 0
    · subst hx
      refine (nam_2 j m pb po pc w J a b hp).mono fun r w' h => ?_
      simpa [BAn, An.go, just] using h
    · have e4 : ((x : Int) + 4) % 4294967296 = ((wr32 (x + 4) : Nat) : Int) := by unfold wr32; omega
      have e2 : ((x : Int) + 2) % 4294967296 = ((wr32 (x + 2) : Nat) : Int) := by unfold wr32; omega
      have h4 : ∀ w, JAt w j m (some ⟨pb, po, none⟩) → _ := fun w J => read18 j ok m (some ⟨pb, po, none⟩) pc (wr32 (x + 4)) 4 (.inr (.inr rfl)) (wr32_lt _) w J
      have h2 : ∀ w, JAt w j m (some ⟨pb, po, none⟩) → _ := fun w J => read18 j ok m (some ⟨pb, po, none⟩) pc (wr32 (x + 2)) 2 (.inr (.inl rfl)) (wr32_lt _) w J
      have s4 := rdA_s j.bs (wr32 (x + 4)) 4
      have s2 := rdA_s j.bs (wr32 (x + 2)) 2
      have f4 := rd_fit ok.okb (wr32 (x + 4)) 4 (.inr (.inr rfl))
      have l2 := rd2_lt ok.okb (wr32 (x + 2))
      have hgo : (An.go ⟨x, 0, 0⟩ fun p => if p = 0 then just 0 else (rdA j.bs (wr32 (p + 4)) 4).go fun row => if row = 0 then just 0 else (rdA j.bs (wr32 (p + 2)) 2).go fun n => namF j row b n 0) = (rdA j.bs (wr32 (x + 4)) 4).go fun row => if row = 0 then just 0 else (rdA j.bs (wr32 (x + 2)) 2).go fun n => namF j row b n 0 := by simp [An.go, hx]
      rw [hgo]
      generalize wr32 (x + 4) = p4 at *
      generalize wr32 (x + 2) = p2 at *
      generalize rdA j.bs p4 4 = Y at *
      generalize rdA j.bs p2 2 = N at *
      obtain ⟨y, s, e⟩ := Y
      simp only at s4
      subst s4
      obtain ⟨n, s, ne⟩ := N
      simp only at s2 l2
      subst s2
      by_cases he : e = 0
      · subst he
        by_cases hy : y = 0
        · subst hy
          refine (nam_4 j m pb po pc w J a b x p4 hx e4 hp h4).mono fun r w' h => ?_
          simpa [BAn, An.go, just] using h
        · by_cases hne : ne = 0
          · subst hne
            refine (nam_6 j m pb po pc w J ok a b x p4 y p2 n l2 (namF j y b n 0) rfl hx e4 hy e2 hp h4 h2).mono fun r w' h => ?_
            simpa [BAn, An.go, hy] using h
          · refine (nam_5 j m pb po pc w J a b x p4 y p2 n ne hne hx e4 hy e2 hp h4 h2).mono fun r w' h => ?_
            simpa [BAn, An.go, hy, hne] using h
      · refine (nam_3 j m pb po pc w J a b x p4 y e he hx e4 hp h4).mono fun r w' h => ?_
        simpa [BAn, An.go, he] using h
  · refine (nam_1 j m pb po pc w J a b T.x T.s T.e h0 hp).mono fun r w' h => ?_
    rw [go_bad h0]
    simpa [BAn] using h
theorem object18 (j : Jb) (ok : j.ok) (m : Nat) (pa : Option Addr) (pc a b : Nat) (ha : a < 4294967296) (hb : b < 4294967296) (w : World) (J : JAt w j m pa) :
    Calls Try.prog 70 #[lkV m pa pc j.att, .int .u32 a, .int .u32 b] w (BAn (objA j a b) w) := by
  obtain ⟨pb, po, rfl, _⟩ := J.par
  have hV : objA j a b = if b = j.p 2 then iclA j a else if b = j.p 3 then (iclA j a).go fun c => one18 (decide (c = 0)) else if b = j.p 5 ∨ b = j.p 4 then just 0 else (icA j b).go fun c => if c = 0 then ⟨0, 2, 0⟩ else namA j a b := rfl
  have hi : ∀ w, JAt w j m (some ⟨pb, po, none⟩) → _ := fun w J => isclass18 j ok m (some ⟨pb, po, none⟩) pc a ha w J
  have hc : ∀ w, JAt w j m (some ⟨pb, po, none⟩) → _ := fun w J => inclass18 j ok m (some ⟨pb, po, none⟩) pc b hb w J
  have hn : ∀ w, JAt w j m (some ⟨pb, po, none⟩) → _ := fun w J => names18 j ok m (some ⟨pb, po, none⟩) pc a b ha hb w J
  have hif := icl_fit ok a
  have hcf := ic_fit ok b
  have h1c := ic_one j b
  have h1i : (iclA j a).x = 0 ∨ (iclA j a).x = 1 := icl_one j a
  generalize iclA j a = I at *
  generalize hCC : icA j b = C at *
  generalize namA j a b = N at *
  generalize objA j a b = V at *
  subst hV
  by_cases h2 : b = j.p 2
  · rw [if_pos h2]
    exact obj_1 j m pb po pc w J a b _ I.s I.e h2 hi
  rw [if_neg h2]
  by_cases h3 : b = j.p 3
  · rw [if_pos h3]
    by_cases i0 : I.s = 0 ∧ I.e = 0
    · rw [An.good i0] at hi ⊢
      rcases h1i with h1 | h1
      · rw [h1] at hi ⊢
        refine (obj_3 j m pb po pc w J a b h2 h3 hi).mono fun r w' h => ?_
        simpa [BAn, An.go, one18] using h
      · rw [h1] at hi ⊢
        refine (obj_2 j m pb po pc w J a b h2 h3 hi).mono fun r w' h => ?_
        simpa [BAn, An.go, one18] using h
    · have hz := hif.z i0
      have hi' : ∀ w, JAt w j m (some ⟨pb, po, none⟩) → _ := fun w J => (hi w J).mono fun r w' h => by simpa [BAn, hz] using h
      refine (obj_4 j m pb po pc w J a b I.s I.e i0 h2 h3 hi').mono fun r w' h => ?_
      rw [go_bad i0]
      simpa [BAn] using h
  rw [if_neg h3]
  by_cases h5 : b = j.p 5
  · rw [if_pos (.inl h5)]
    refine (obj_5 j m pb po pc w J a b h2 h3 h5).mono fun r w' h => ?_
    simpa [BAn, just] using h
  by_cases h4 : b = j.p 4
  · rw [if_pos (.inr h4)]
    refine (obj_6 j m pb po pc w J a b h2 h3 h5 h4).mono fun r w' h => ?_
    simpa [BAn, just] using h
  rw [if_neg (by omega)]
  by_cases c0 : C.s = 0 ∧ C.e = 0
  · rw [An.good c0] at hc ⊢
    rcases h1c with h1 | h1
    · rw [h1] at hc ⊢
      refine (obj_8 j m pb po pc w J a b h2 h3 h5 h4 hc).mono fun r w' h => ?_
      simpa [BAn, An.go] using h
    · rw [h1] at hc ⊢
      refine (obj_9 j m pb po pc w J a b _ N.s N.e h2 h3 h5 h4 hc hn).mono fun r w' h => ?_
      simpa [BAn, An.go] using h
  · have hz := hcf.z c0
    have hc' : ∀ w, JAt w j m (some ⟨pb, po, none⟩) → _ := fun w J => (hc w J).mono fun r w' h => by simpa [BAn, hz] using h
    refine (obj_7 j m pb po pc w J a b C.s C.e c0 h2 h3 h5 h4 hc').mono fun r w' h => ?_
    rw [go_bad c0]
    simpa [BAn] using h
end Go.Proofs.Ytpgppdkbkkljnaa
namespace Go.Proofs.Ytpgppdkbkkljnaa
open Go.RowKit
set_option maxHeartbeats 1000000
set_option maxRecDepth 100000
set_option linter.unusedVariables false

theorem of18 (j : Jb) (ok : j.ok) (m : Nat) (pa : Option Addr) (pc a b : Nat) (ha : a < 4294967296) (hb : b < 4294967296) (w : World) (J : JAt w j m pa) :
    Calls Try.prog 52 #[lkV m pa pc j.att, .int .u32 a, .int .u32 b] w (NAn (ofA j a b) w) := by
  obtain ⟨pb, po, rfl, _⟩ := J.par
  have hr : ∀ w, JAt w j m (some ⟨pb, po, none⟩) → _ := fun w J => region18 j ok m (some ⟨pb, po, none⟩) pc a ha w J
  have ho : ∀ w, JAt w j m (some ⟨pb, po, none⟩) → _ := fun w J => object18 j ok m (some ⟨pb, po, none⟩) pc a b ha hb w J
  have hV : ofA j a b = if regJ j a = 3 then one18 (decide (b = j.p 5)) else if regJ j a = 2 then one18 (decide (b = j.p 4)) else if regJ j a = 1 then objA j a b else just 0 := rfl
  have h3 := reg_le j a
  have h1 := obj_one j a b
  have hof := obj_fit ok a b
  generalize objA j a b = O at *
  generalize ofA j a b = V at *
  generalize regJ j a = R at *
  subst hV
  rcases (by omega : R = 3 ∨ R = 2 ∨ R = 1 ∨ R = 0) with rfl | rfl | rfl | rfl
  · by_cases h5 : b = j.p 5
    · refine (of_1t j m pb po pc w J a b h5 hr).mono fun r w' h => ?_
      simpa [NAn, one18, h5] using h
    · refine (of_1f j m pb po pc w J a b h5 hr).mono fun r w' h => ?_
      simpa [NAn, one18, h5] using h
  · by_cases h4 : b = j.p 4
    · refine (of_2t j m pb po pc w J a b h4 hr).mono fun r w' h => ?_
      simpa [NAn, one18, h4] using h
    · refine (of_2f j m pb po pc w J a b h4 hr).mono fun r w' h => ?_
      simpa [NAn, one18, h4] using h
  · rw [if_neg (by decide), if_neg (by decide), if_pos rfl]
    by_cases o0 : O.s = 0 ∧ O.e = 0
    · rw [An.good o0] at ho ⊢
      rcases h1 with h1 | h1
      · rw [h1] at ho ⊢
        refine (of_3f j m pb po pc w J a b 0 0 hr ho).mono fun r w' h => ?_
        simpa [NAn] using h
      · rw [h1] at ho ⊢
        refine (of_3t j m pb po pc w J a b hr ho).mono fun r w' h => ?_
        simpa [NAn] using h
    · have hz := hof.z o0
      have ho' : ∀ w, JAt w j m (some ⟨pb, po, none⟩) → _ := fun w J => (ho w J).mono fun r w' h => by simpa [BAn, hz] using h
      refine (of_3f j m pb po pc w J a b O.s O.e hr ho').mono fun r w' h => ?_
      rw [An.zero hof o0]
      simpa [NAn] using h
  · refine (of_0 j m pb po pc w J a b hr).mono fun r w' h => ?_
    simpa [NAn, just] using h
theorem prop18 (j : Jb) (ok : j.ok) (m : Nat) (pa : Option Addr) (pc a b : Nat) (ha : a < 4294967296) (hb : b < 4294967296) (w : World) (J : JAt w j m pa) :
    Calls Try.prog 68 #[lkV m pa pc j.att, .int .u32 a, .int .u32 b] w (NAn (proA j a b) w) := by
  by_cases hlow : b < 65536
  · have hV : proA j a b = shoA j a b false := if_pos hlow
    rw [hV]
    exact proplow18 j ok m pa pc a b ha hlow w J
  obtain ⟨pb, po, rfl, _⟩ := J.par
  have hV : proA j a b = (rdA j.bs (wr32 (j.p 0 + 4 * (b % 65536))) 4).go fun c => (ofA j a c).go fun x => if x = 0 then just 0 else shoA j c (b / 65536) (decide (c ≠ 0)) := if_neg hlow
  have hp0 := ok.p 0
  have e1 : IntKind.u32.wrap ((j.p 0 : Int) + IntKind.u32.wrap (4 * (b : Int).tmod 65536)) = ((wr32 (j.p 0 + 4 * (b % 65536)) : Nat) : Int) := by
    rw [IntKind.wrap_u32, IntKind.wrap_u32, Int.tmod_eq_emod_of_nonneg (by omega)]
    unfold wr32; omega
  have hc : ∀ w, JAt w j m (some ⟨pb, po, none⟩) → _ := fun w J => read18 j ok m (some ⟨pb, po, none⟩) pc (wr32 (j.p 0 + 4 * (b % 65536))) 4 (.inr (.inr rfl)) (wr32_lt _) w J
  have hs := rdA_s j.bs (wr32 (j.p 0 + 4 * (b % 65536))) 4
  have hf := rd_fit ok.okb (wr32 (j.p 0 + 4 * (b % 65536))) 4 (.inr (.inr rfl))
  generalize wr32 (j.p 0 + 4 * (b % 65536)) = AD at *
  generalize rdA j.bs AD 4 = R at *
  generalize proA j a b = V at *
  subst hV
  obtain ⟨c, s, e⟩ := R
  simp only at hs
  subst hs
  by_cases h0 : e = 0
  · subst h0
    have hcl := hf.lt
    simp only at hcl
    have ho : ∀ w, JAt w j m (some ⟨pb, po, none⟩) → _ := fun w J => of18 j ok m (some ⟨pb, po, none⟩) pc a c ha hcl w J
    have hof := of_fit ok a c
    have hgo : (An.go ⟨c, 0, 0⟩ fun c => (ofA j a c).go fun x => if x = 0 then just 0 else shoA j c (b / 65536) (decide (c ≠ 0))) = (ofA j a c).go fun x => if x = 0 then just 0 else shoA j c (b / 65536) (decide (c ≠ 0)) := by simp [An.go]
    rw [hgo]
    generalize ofA j a c = O at *
    by_cases o0 : O.s = 0 ∧ O.e = 0
    · rw [An.good o0] at ho ⊢
      generalize O.x = y at *
      by_cases hy : y = 0
      · subst hy
        refine (pro_4 j m pb po pc w J a b AD c hlow e1 hc ho).mono fun r w' h => ?_
        simpa [NAn, An.go, just] using h
      · have hd : b / 65536 < 65536 := by omega
        have ed : (b : Int) / 65536 = ((b / 65536 : Nat) : Int) := by omega
        have hsh : ∀ o, ∀ w, JAt w j m (some ⟨pb, po, none⟩) → _ := fun o w J => shown18 j ok m (some ⟨pb, po, none⟩) pc c (b / 65536) o hcl (by omega) w J
        by_cases hz : c = 0
        · have hdc : decide (c ≠ 0) = false := by simp [hz]
          rw [hdc]
          refine (pro_5 j m pb po pc w J a b AD c y _ _ _ hlow e1 hy hz (b / 65536) ed hd hc ho (hsh false)).mono fun r w' h => ?_
          simpa [NAn, An.go, hy] using h
        · have hdc : decide (c ≠ 0) = true := by simp [hz]
          rw [hdc]
          refine (pro_6 j m pb po pc w J a b AD c y _ _ _ hlow e1 hy hz (b / 65536) ed hd hc ho (hsh true)).mono fun r w' h => ?_
          simpa [NAn, An.go, hy] using h
    · refine (pro_3 j m pb po pc w J a b AD c O.x O.s O.e hlow e1 o0 hc ho).mono fun r w' h => ?_
      rw [go_bad o0]; exact h
  · refine (pro_2 j m pb po pc w J a b AD c e hlow e1 h0 hc).mono fun r w' h => ?_
    simpa [NAn, An.go, h0] using h
theorem addr18 (j : Jb) (ok : j.ok) (m : Nat) (pa : Option Addr) (pc a b : Nat) (ha : a < 4294967296) (hb : b < 4294967296) (w : World) (J : JAt w j m pa) :
    Calls Try.prog 50 #[lkV m pa pc j.att, .int .u32 a, .int .u32 b] w (NAn (adrA j a b) w) := by
  obtain ⟨pb, po, rfl, _⟩ := J.par
  have hp : ∀ w, JAt w j m (some ⟨pb, po, none⟩) → _ := fun w J => prop18 j ok m (some ⟨pb, po, none⟩) pc a b ha hb w J
  have hV : adrA j a b = (proA j a b).go fun p => if p = 0 then just 0 else rdA j.bs (wr32 (p + 4)) 4 := rfl
  have hf := pro_fit ok a b
  generalize proA j a b = T at *
  generalize adrA j a b = V at *
  subst hV
  by_cases h0 : T.s = 0 ∧ T.e = 0
  · rw [An.good h0] at hp ⊢
    generalize T.x = x at *
    by_cases hx : x = 0
    · subst hx
      refine (adr_2 j m pb po pc w J a b hp).mono fun r w' h => ?_
      simpa [NAn, An.go, just] using h
    · have e4 : ((x : Int) + 4) % 4294967296 = ((wr32 (x + 4) : Nat) : Int) := by unfold wr32; omega
      have h4 : ∀ w, JAt w j m (some ⟨pb, po, none⟩) → _ := fun w J => read18 j ok m (some ⟨pb, po, none⟩) pc (wr32 (x + 4)) 4 (.inr (.inr rfl)) (wr32_lt _) w J
      have s4 := rdA_s j.bs (wr32 (x + 4)) 4
      have hgo : (An.go ⟨x, 0, 0⟩ fun p => if p = 0 then just 0 else rdA j.bs (wr32 (p + 4)) 4) = rdA j.bs (wr32 (x + 4)) 4 := by simp [An.go, hx]
      rw [hgo]
      generalize wr32 (x + 4) = p4 at *
      generalize rdA j.bs p4 4 = Y at *
      obtain ⟨y, s, e⟩ := Y
      simp only at s4
      subst s4
      exact adr_3 j m pb po pc w J a b x p4 y e hx e4 hp h4
  · refine (adr_1 j m pb po pc w J a b T.x T.s T.e h0 hp).mono fun r w' h => ?_
    rw [go_bad h0]; exact h
theorem length18 (j : Jb) (ok : j.ok) (m : Nat) (pa : Option Addr) (pc a b : Nat) (ha : a < 4294967296) (hb : b < 4294967296) (w : World) (J : JAt w j m pa) :
    Calls Try.prog 51 #[lkV m pa pc j.att, .int .u32 a, .int .u32 b] w (NAn (lenA j a b) w) := by
  obtain ⟨pb, po, rfl, _⟩ := J.par
  have hp : ∀ w, JAt w j m (some ⟨pb, po, none⟩) → _ := fun w J => prop18 j ok m (some ⟨pb, po, none⟩) pc a b ha hb w J
  have hV : lenA j a b = (proA j a b).go fun p => if p = 0 then just 0 else (rdA j.bs (wr32 (p + 2)) 2).go fun n => just (4 * n) := rfl
  have hf := pro_fit ok a b
  generalize proA j a b = T at *
  generalize lenA j a b = V at *
  subst hV
  by_cases h0 : T.s = 0 ∧ T.e = 0
  · rw [An.good h0] at hp ⊢
    generalize T.x = x at *
    by_cases hx : x = 0
    · subst hx
      refine (len_2 j m pb po pc w J a b hp).mono fun r w' h => ?_
      simpa [NAn, An.go, just] using h
    · have e2 : ((x : Int) + 2) % 4294967296 = ((wr32 (x + 2) : Nat) : Int) := by unfold wr32; omega
      have h2 : ∀ w, JAt w j m (some ⟨pb, po, none⟩) → _ := fun w J => read18 j ok m (some ⟨pb, po, none⟩) pc (wr32 (x + 2)) 2 (.inr (.inl rfl)) (wr32_lt _) w J
      have s2 := rdA_s j.bs (wr32 (x + 2)) 2
      have l2 := rd2_lt ok.okb (wr32 (x + 2))
      have f2 := rd_fit ok.okb (wr32 (x + 2)) 2 (.inr (.inl rfl))
      have hgo : (An.go ⟨x, 0, 0⟩ fun p => if p = 0 then just 0 else (rdA j.bs (wr32 (p + 2)) 2).go fun n => just (4 * n)) = (rdA j.bs (wr32 (x + 2)) 2).go fun n => just (4 * n) := by simp [An.go, hx]
      rw [hgo]
      generalize wr32 (x + 2) = p2 at *
      generalize rdA j.bs p2 2 = Y at *
      obtain ⟨n, s, e⟩ := Y
      simp only at s2 l2
      subst s2
      refine (len_3 j m pb po pc w J a b x p2 n (4 * n) e hx e2 (by omega) hp h2).mono fun r w' h => ?_
      by_cases he : e = 0
      · subst he
        simpa [NAn, An.go, just] using h
      · have := f2.z (fun h => he h.2)
        simp only at this
        subst this
        simpa [NAn, An.go, he] using h
  · refine (len_1 j m pb po pc w J a b T.x T.s T.e h0 hp).mono fun r w' h => ?_
    rw [go_bad h0]; exact h
theorem value18 (j : Jb) (ok : j.ok) (m : Nat) (pa : Option Addr) (pc a b : Nat) (ha : a < 4294967296) (hb : b < 4294967296) (w : World) (J : JAt w j m pa) :
    Calls Try.prog 53 #[lkV m pa pc j.att, .int .u32 a, .int .u32 b] w (NAn (valA j a b) w) := by
  obtain ⟨pb, po, rfl, _⟩ := J.par
  have hp : ∀ w, JAt w j m (some ⟨pb, po, none⟩) → _ := fun w J => addr18 j ok m (some ⟨pb, po, none⟩) pc a b ha hb w J
  have hV : valA j a b = (adrA j a b).go fun x => if x ≠ 0 then rdA j.bs x 4 else if 0 < b ∧ b < j.p 1 then rdA j.bs (wr32 (j.p 8 + 4 * b)) 4 else ⟨0, 3, 0⟩ := rfl
  have hf := adr_fit ok a b
  have hp8 := ok.p 8
  generalize adrA j a b = T at *
  generalize valA j a b = V at *
  subst hV
  by_cases h0 : T.s = 0 ∧ T.e = 0
  · have hxl := hf.lt
    rw [An.good h0] at hp ⊢
    generalize T.x = x at *
    by_cases hx : x = 0
    · subst hx
      by_cases hb0 : b = 0
      · refine (val_4 j m pb po pc w J a b hb0 hp).mono fun r w' h => ?_
        simpa [NAn, An.go, hb0] using h
      · have hbp : 0 < b := by omega
        by_cases h1 : b < j.p 1
        · have e8 : IntKind.u32.wrap ((j.p 8 : Int) + IntKind.u32.wrap (4 * (b : Int))) = ((wr32 (j.p 8 + 4 * b) : Nat) : Int) := by
            rw [IntKind.wrap_u32, IntKind.wrap_u32]
            unfold wr32; omega
          have h4 : ∀ w, JAt w j m (some ⟨pb, po, none⟩) → _ := fun w J => read18 j ok m (some ⟨pb, po, none⟩) pc (wr32 (j.p 8 + 4 * b)) 4 (.inr (.inr rfl)) (wr32_lt _) w J
          have s4 := rdA_s j.bs (wr32 (j.p 8 + 4 * b)) 4
          generalize wr32 (j.p 8 + 4 * b) = AD at *
          have hgo : (An.go ⟨0, 0, 0⟩ fun x => if x ≠ 0 then rdA j.bs x 4 else if 0 < b ∧ b < j.p 1 then rdA j.bs AD 4 else ⟨0, 3, 0⟩) = rdA j.bs AD 4 := by simp [An.go, hbp, h1]
          rw [hgo]
          generalize rdA j.bs AD 4 = Y at *
          obtain ⟨y, s, e⟩ := Y
          simp only at s4
          subst s4
          exact val_3 j m pb po pc w J a b AD y e hbp h1 e8 hp h4
        · refine (val_5 j m pb po pc w J a b hbp h1 hp).mono fun r w' h => ?_
          simpa [NAn, An.go, h1] using h
    · have h4 : ∀ w, JAt w j m (some ⟨pb, po, none⟩) → _ := fun w J => read18 j ok m (some ⟨pb, po, none⟩) pc x 4 (.inr (.inr rfl)) hxl w J
      have s4 := rdA_s j.bs x 4
      have hgo : (An.go ⟨x, 0, 0⟩ fun x => if x ≠ 0 then rdA j.bs x 4 else if 0 < b ∧ b < j.p 1 then rdA j.bs (wr32 (j.p 8 + 4 * b)) 4 else ⟨0, 3, 0⟩) = rdA j.bs x 4 := by simp [An.go, hx]
      rw [hgo]
      generalize rdA j.bs x 4 = Y at *
      obtain ⟨y, s, e⟩ := Y
      simp only at s4
      subst s4
      exact val_2 j m pb po pc w J a b x y e hx hp h4
  · refine (val_1 j m pb po pc w J a b T.x T.s T.e h0 hp).mono fun r w' h => ?_
    rw [go_bad h0]; exact h
theorem ohas18 (j : Jb) (ok : j.ok) (m : Nat) (pa : Option Addr) (pc a b : Nat) (ha : a < 4294967296) (hb : b < 4294967296) (w : World) (J : JAt w j m pa) :
    Calls Try.prog 71 #[lkV m pa pc j.att, .int .u32 a, .int .u32 b] w (NAn (ohaA j a b) w) := by
  obtain ⟨pb, po, rfl, _⟩ := J.par
  have hp : ∀ w, JAt w j m (some ⟨pb, po, none⟩) → _ := fun w J => isprop18 j ok m (some ⟨pb, po, none⟩) pc b hb w J
  have hc : ∀ w, JAt w j m (some ⟨pb, po, none⟩) → _ := fun w J => inclass18 j ok m (some ⟨pb, po, none⟩) pc a ha w J
  have hd : ∀ w, JAt w j m (some ⟨pb, po, none⟩) → _ := fun w J => addr18 j ok m (some ⟨pb, po, none⟩) pc a b ha hb w J
  have hV : ohaA j a b = (if clsP j b then icA j a else just 0).go fun c => if c = 1 then just 1 else (adrA j a b).go fun x => one18 (decide (x ≠ 0)) := rfl
  have hcf := ic_fit ok a
  have h1 := ic_one j a
  have hdf := adr_fit ok a b
  generalize adrA j a b = D at *
  generalize icA j a = C at *
  generalize ohaA j a b = V at *
  subst hV
  have hD : (D.go fun x => one18 (decide (x ≠ 0))) = ⟨if D.x = 0 then 0 else 1, D.s, D.e⟩ := by
    by_cases d0 : D.s = 0 ∧ D.e = 0
    · rw [go_good d0]
      by_cases hx : D.x = 0
      · simp [one18, hx, d0.1, d0.2]
      · simp [one18, hx, d0.1, d0.2]
    · rw [go_bad d0, hdf.z d0]; simp
  cases hq : clsP j b
  · rw [hq] at hp
    have e : ((if false = true then C else just 0).go fun c => if c = 1 then just 1 else D.go fun x => one18 (decide (x ≠ 0))) = ⟨if D.x = 0 then 0 else 1, D.s, D.e⟩ := by
      rw [← hD]; simp [An.go, just]
    rw [e]
    by_cases hx : D.x = 0
    · rw [if_pos hx]
      have hd' : ∀ w, JAt w j m (some ⟨pb, po, none⟩) → _ := fun w J => (hd w J).mono fun r w' h => by simpa [NAn, hx] using h
      exact oha_ff j m pb po pc w J a b D.s D.e hp hd'
    · rw [if_neg hx]
      exact oha_ft j m pb po pc w J a b D.x D.s D.e hx hp hd
  · rw [hq] at hp
    by_cases c0 : C.s = 0 ∧ C.e = 0
    · rw [An.good c0] at hc ⊢
      rcases h1 with h1 | h1
      · rw [h1] at hc ⊢
        have e : ((if true = true then (⟨0, 0, 0⟩ : An) else just 0).go fun c => if c = 1 then just 1 else D.go fun x => one18 (decide (x ≠ 0))) = ⟨if D.x = 0 then 0 else 1, D.s, D.e⟩ := by
          rw [← hD]; simp [An.go]
        rw [e]
        by_cases hx : D.x = 0
        · rw [if_pos hx]
          have hd' : ∀ w, JAt w j m (some ⟨pb, po, none⟩) → _ := fun w J => (hd w J).mono fun r w' h => by simpa [NAn, hx] using h
          exact oha_tf j m pb po pc w J a b D.s D.e hp hc hd'
        · rw [if_neg hx]
          exact oha_tt j m pb po pc w J a b D.x D.s D.e hx hp hc hd
      · rw [h1] at hc ⊢
        refine (oha_2 j m pb po pc w J a b hp hc).mono fun r w' h => ?_
        simpa [NAn, An.go, just] using h
    · have hz := hcf.z c0
      have hc' : ∀ w, JAt w j m (some ⟨pb, po, none⟩) → _ := fun w J => (hc w J).mono fun r w' h => by simpa [BAn, hz] using h
      refine (oha_1 j m pb po pc w J a b C.s C.e c0 hp hc').mono fun r w' h => ?_
      rw [if_pos rfl, go_bad c0]; exact h
theorem has18 (j : Jb) (ok : j.ok) (m : Nat) (pa : Option Addr) (pc a b : Nat) (ha : a < 4294967296) (hb : b < 4294967296) (w : World) (J : JAt w j m pa) :
    Calls Try.prog 54 #[lkV m pa pc j.att, .int .u32 a, .int .u32 b] w (NAn (hasA j a b) w) := by
  obtain ⟨pb, po, rfl, _⟩ := J.par
  have hr : ∀ w, JAt w j m (some ⟨pb, po, none⟩) → _ := fun w J => region18 j ok m (some ⟨pb, po, none⟩) pc a ha w J
  have ho : ∀ w, JAt w j m (some ⟨pb, po, none⟩) → _ := fun w J => ohas18 j ok m (some ⟨pb, po, none⟩) pc a b ha hb w J
  have hV : hasA j a b = if regJ j a = 3 then one18 (decide (b = wr32 (j.p 1 + 6)) || decide (b = wr32 (j.p 1 + 7))) else if regJ j a = 2 then one18 (decide (b = wr32 (j.p 1 + 5))) else if regJ j a = 1 then ohaA j a b else just 0 := rfl
  have h3 := reg_le j a
  have e6 : ((j.p 1 : Int) + 6) % 4294967296 = ((wr32 (j.p 1 + 6) : Nat) : Int) := by unfold wr32; omega
  have e7 : ((j.p 1 : Int) + 7) % 4294967296 = ((wr32 (j.p 1 + 7) : Nat) : Int) := by unfold wr32; omega
  have e5 : ((j.p 1 : Int) + 5) % 4294967296 = ((wr32 (j.p 1 + 5) : Nat) : Int) := by unfold wr32; omega
  generalize wr32 (j.p 1 + 5) = i5 at *
  generalize wr32 (j.p 1 + 6) = i6 at *
  generalize wr32 (j.p 1 + 7) = i7 at *
  generalize ohaA j a b = O at *
  generalize hasA j a b = V at *
  generalize regJ j a = R at *
  subst hV
  rcases (by omega : R = 3 ∨ R = 2 ∨ R = 1 ∨ R = 0) with rfl | rfl | rfl | rfl
  · by_cases h6 : b = i6
    · refine (has_1a j m pb po pc w J a b i6 e6 h6 hr).mono fun r w' h => ?_
      simpa [NAn, one18, h6] using h
    · by_cases h7 : b = i7
      · refine (has_1b j m pb po pc w J a b i6 e6 i7 e7 h6 h7 hr).mono fun r w' h => ?_
        simpa [NAn, one18, h7] using h
      · refine (has_1c j m pb po pc w J a b i6 e6 i7 e7 h6 h7 hr).mono fun r w' h => ?_
        simpa [NAn, one18, h6, h7] using h
  · by_cases h5 : b = i5
    · refine (has_2a j m pb po pc w J a b i5 e5 h5 hr).mono fun r w' h => ?_
      simpa [NAn, one18, h5] using h
    · refine (has_2b j m pb po pc w J a b i5 e5 h5 hr).mono fun r w' h => ?_
      simpa [NAn, one18, h5] using h
  · rw [if_neg (by decide), if_neg (by decide), if_pos rfl]
    exact has_3 j m pb po pc w J a b O.x O.s O.e hr ho
  · refine (has_0 j m pb po pc w J a b hr).mono fun r w' h => ?_
    simpa [NAn, just] using h
theorem do18 (j : Jb) (ok : j.ok) (m : Nat) (pa : Option Addr) (pc k a b : Nat) (h1 : 1 ≤ k) (h7 : k ≤ 7) (ha : a < 4294967296) (hb : b < 4294967296) (w : World) (J : JAt w j m pa) :
    Calls Try.prog 34 #[lkV m pa pc j.att, .int .u32 k, .int .u32 a, .int .u32 b] w (NAn (doK j k a b) w) := by
  obtain ⟨pb, po, rfl, _⟩ := J.par
  rcases (by omega : k = 1 ∨ k = 2 ∨ k = 3 ∨ k = 4 ∨ k = 5 ∨ k = 6 ∨ k = 7) with rfl | rfl | rfl | rfl | rfl | rfl | rfl
  · exact do_1 j m pb po pc w J a b (regJ j a) (fun w J => region18 j ok m (some ⟨pb, po, none⟩) pc a ha w J)
  · exact do_2 j m pb po pc w J a b _ _ _ (fun w J => tab18 j ok m (some ⟨pb, po, none⟩) pc a b ha hb w J)
  · exact do_3 j m pb po pc w J a b _ _ _ (fun w J => addr18 j ok m (some ⟨pb, po, none⟩) pc a b ha hb w J)
  · exact do_4 j m pb po pc w J a b _ _ _ (fun w J => length18 j ok m (some ⟨pb, po, none⟩) pc a b ha hb w J)
  · exact do_5 j m pb po pc w J a b _ _ _ (fun w J => of18 j ok m (some ⟨pb, po, none⟩) pc a b ha hb w J)
  · exact do_6 j m pb po pc w J a b _ _ _ (fun w J => value18 j ok m (some ⟨pb, po, none⟩) pc a b ha hb w J)
  · exact do_7 j m pb po pc w J a b _ _ _ (fun w J => has18 j ok m (some ⟨pb, po, none⟩) pc a b ha hb w J)
end Go.Proofs.Ytpgppdkbkkljnaa
namespace Go.Proofs.Ytpgppdkbkkljnaa
open Go.RowKit
set_option maxHeartbeats 1000000
set_option maxRecDepth 100000
set_option linter.unusedVariables false

/-- a memory of these bytes, of which those from ram on may change -/
def MemR (w : World) (m : Nat) (bs : List Int) (ram : Nat) : Prop := (∃ B gb gc bb bc h hv s, MAt B w m gb gc bb bc h hv s ∧ s.bytes = bs ∧ s.ram = ram) ∧ OkB bs ∧ bs.length ≤ 1048576 ∧ ram < 4294967296
theorem MemR.later {w w' : World} {m ram : Nat} {bs : List Int} (h : MemR w m bs ram) (hb : Below w.heap.size w w') : MemR w' m bs ram := by
  obtain ⟨⟨B, gb, gc, bb, bc, hh, hv, s, H, h1, h2⟩, h3⟩ := h
  exact ⟨⟨B, gb, gc, bb, bc, hh, hv, s, H.later hb, h1, h2⟩, h3⟩
def DRet18 (v : An) (w : World) (r : Ending) (w' : World) : Prop := r = .returned (.tuple #[.int .u32 v.x, .int .i64 v.s, .int .i64 v.e]) ∧ Below w.heap.size w w'
theorem do_nil (pa : Option Addr) (np pc : Nat) (n : Int) (aa : Option Addr) (an ac : Nat) (w : World) :
    Calls Try.prog 20 #[.pointer none, .slice pa np pc, .int .u32 n, .slice aa an ac] w (DRet18 ⟨0, 0, 8⟩ w) := by
  go_enter Try.func20, Try.ntmps20
  go_wp2
  refine bodyPost_ret (v := .tuple #[.int .u32 0, .int .i64 0, .int .i64 8]) (by simp [results, Try.results20, go_sem]) rfl ⟨rfl, Below.refl _ _⟩
theorem do_arg (m : Nat) (pa : Option Addr) (np pc : Nat) (n : Nat) (aa : Option Addr) (an ac : Nat) (w : World) (h : np ≠ 9 ∨ n < 1 ∨ 13 < n) :
    Calls Try.prog 20 #[.pointer (some ⟨m, 0, none⟩), .slice pa np pc, .int .u32 n, .slice aa an ac] w (DRet18 ⟨0, 0, 1⟩ w) := by
  by_cases h9 : np = 9
  · subst h9
    by_cases h1 : n < 1
    · have l1 : (n : Int) < 1 := by omega
      go_enter Try.func20, Try.ntmps20
      go_wp2
      refine bodyPost_ret (v := .tuple #[.int .u32 0, .int .i64 0, .int .i64 1]) (by simp [results, Try.results20, go_sem]) rfl ⟨rfl, Below.refl _ _⟩
    · have l1 : ¬ (n : Int) < 1 := by omega
      have l2 : (n : Int) > 13 := by omega
      go_enter Try.func20, Try.ntmps20
      go_wp2
      refine bodyPost_ret (v := .tuple #[.int .u32 0, .int .i64 0, .int .i64 1]) (by simp [results, Try.results20, go_sem]) rfl ⟨rfl, Below.refl _ _⟩
  · have q : ((np : Int) == 9) = false := by rw [beq_eq_false_iff_ne]; omega
    have q2 : ((np : Int) != 9) = true := by rw [bne, q]; rfl
    go_enter Try.func20, Try.ntmps20
    go_wp2
    refine bodyPost_ret (v := .tuple #[.int .u32 0, .int .i64 0, .int .i64 1]) (by simp [results, Try.results20, go_sem]) rfl ⟨rfl, Below.refl _ _⟩
theorem bel_dn {B : Nat} {a w : World} (h : Below B a w) (n : Nat) : Below B a (w.drewN n) := ⟨h.os, h.tape, h.output, h.size, h.block⟩
theorem do_good (m : Nat) (bs : List Int) (ram : Nat) (pa : Option Addr) (pc : Nat) (xs : List Nat) (n : Nat) (aa : Option Addr) (an ac : Nat) (ys : List Nat) (w : World) (hm : MemR w m bs ram) (hp : VRow w pa 9 xs) (ha : VRow w aa an ys) (h1 : 1 ≤ n) (h13 : n ≤ 13) :
    Calls Try.prog 20 #[.pointer (some ⟨m, 0, none⟩), .slice pa 9 pc, .int .u32 n, .slice aa an ac] w (DRet18 (doA bs ram xs n ys) w) := by
  have l1 : ¬ (n : Int) < 1 := by omega
  have l2 : ¬ (n : Int) > 13 := by omega
  have hxs : ∀ i, xs.getD i 0 < 4294967296 := fun i => by
    rw [List.getD_eq_getElem?_getD]
    cases he : xs[i]? with
    | none => decide
    | some x => exact hp.bd x (List.mem_of_getElem? he)
  have hys : ∀ i, ys.getD i 0 < 4294967296 := fun i => by
    rw [List.getD_eq_getElem?_getD]
    cases he : ys[i]? with
    | none => decide
    | some x => exact ha.bd x (List.mem_of_getElem? he)
  have hV : doA bs ram xs n ys = doK ⟨bs, ram, xs, if 8 ≤ n then xs.getD 7 0 else 7⟩ (if 8 ≤ n then n - 6 else n) (ys.getD 0 0) (ys.getD 1 0) := by
    unfold doA
    rw [if_neg]
    rw [hp.ln]
    omega
  have ok : (⟨bs, ram, xs, if 8 ≤ n then xs.getD 7 0 else 7⟩ : Jb).ok := ⟨hm.2.1, hm.2.2.1, hp.ln, hp.bd, by
    show (if 8 ≤ n then xs.getD 7 0 else 7) < 4294967296
    split
    · exact hxs 7
    · decide, hm.2.2.2⟩
  have hk1 : 1 ≤ (if 8 ≤ n then n - 6 else n) := by split <;> omega
  have hk7 : (if 8 ≤ n then n - 6 else n) ≤ 7 := by split <;> omega
  have HL := hidden (fun w h => look18 m pa pc xs n w h)
  have HK := hidden (kind18 n (by omega))
  have HA := hidden (fun (i : Nat) (hi : i < 2) w h => arg18 aa an ac ys i w h hi)
  have HD := hidden (fun w J => do18 ⟨bs, ram, xs, if 8 ≤ n then xs.getD 7 0 else 7⟩ ok m pa pc (if 8 ≤ n then n - 6 else n) (ys.getD 0 0) (ys.getD 1 0) hk1 hk7 (hys 0) (hys 1) w J)
  rw [hV]
  clear hV
  have HM := hidden hm
  have HP := hidden hp
  have HAA := hidden ha
  clear hm hp ha hk1 hk7 ok
  generalize (if 8 ≤ n then xs.getD 7 0 else 7) = AT at *
  generalize (if 8 ≤ n then n - 6 else n) = KK at *
  unfold lkV at HL
  unfold lkV at HD
  simp only at HD
  generalize doK ⟨bs, ram, xs, AT⟩ KK (ys.getD 0 0) (ys.getD 1 0) = V at *
  have HA0 : Hid (∀ w, VRow w aa an ys → Calls Try.prog 36 #[.slice aa an ac, .int .i64 0] w fun r w' => r = .returned (.int .u32 (ys.getD 0 0 : Nat)) ∧ w' = w) := hidden (fun w h => HA.out 0 (by decide) w h)
  have HA1 : Hid (∀ w, VRow w aa an ys → Calls Try.prog 36 #[.slice aa an ac, .int .i64 1] w fun r w' => r = .returned (.int .u32 (ys.getD 1 0 : Nat)) ∧ w' = w) := hidden (fun w h => HA.out 1 (by decide) w h)
  generalize ys.getD 0 0 = A0 at *
  generalize ys.getD 1 0 = A1 at *
  clear HA
  go_enter Try.func20, Try.ntmps20
  go_upto_region 6 with (first
    | (go_at_call 33; refine (HL.out _ HP.out).mono ?_; rintro e w2 ⟨rfl, hb2⟩; have HB := hidden hb2; have HJ : Hid (JAt w2 ⟨bs, ram, xs, AT⟩ m pa) := hidden ⟨(HM.out.later hb2).1, HP.out.later hb2⟩; replace HAA := hidden (HAA.out.later hb2); clear hb2)
    | (go_at_call 35; refine (HK.out _).mono ?_; rintro e w3 ⟨rfl, e9⟩; rw [e9]; clear e9)
    | (go_at_call 36; (with_reducible refine (HA0.out _ HAA.out).mono ?_); rintro e w3 ⟨rfl, e9⟩; rw [e9]; clear e9)
    | (go_at_call 36; (with_reducible refine (HA1.out _ HAA.out).mono ?_); rintro e w3 ⟨rfl, e9⟩; rw [e9]; clear e9)
    | (go_at_call 34; refine (HD.out _ HJ.out).mono ?_; rintro e w4 ⟨rfl, hb4⟩; replace HB := hidden (HB.out.trans (hb4.mono HB.out.size)); clear hb4)
    | fail)
  have HX := hidden (TBx.new w4 V.s V.e)
  have HB5 : Hid (Below w.heap.size w (w4.alloc (.cells #[.int .i64 V.s, .int .i64 V.e] 91))) := hidden (HB.out.alloc HB.out.size _)
  change Code.wp _ _ _ _ (w4.alloc (.cells #[.int .i64 V.s, .int .i64 V.e] 91))
  generalize w4.alloc (.cells #[.int .i64 V.s, .int .i64 V.e] 91) = w5 at *
  generalize w4.heap.size = H at *
  obtain ⟨c0, c1, _⟩ := HX.out.cells
  go_quiet (fail)
  all_goals
    go_wp2
    refine bodyPost_ret (v := .tuple #[.int .u32 V.x, .int .i64 V.s, .int .i64 V.e]) (by simp [results, Try.results20, go_sem]) rfl ⟨rfl, bel_dn HB5.out _⟩
theorem slip_of (s : Int) (w : World) (h0 : s ≠ 1) (h2 : s ≠ 2) (h3 : s ≠ 3) : Calls Try.prog 23 #[.int .i64 s] w fun r w' => r = .returned (.string ⟨#[]⟩) ∧ w' = w := by
  have q1 : (s == 1) = false := by rw [beq_eq_false_iff_ne]; exact h0
  have q2 : (s == 2) = false := by rw [beq_eq_false_iff_ne]; exact h2
  have q3 : (s == 3) = false := by rw [beq_eq_false_iff_ne]; exact h3
  go_enter Try.func23, Try.ntmps23
  go_wp2
  go_ret
  exact ⟨rfl, rfl⟩
theorem slip_find (w : World) : Calls Try.prog 23 #[.int .i64 1] w fun r w' => (∃ t : ByteArray, r = .returned (.string t) ∧ 10 < t.size) ∧ w' = w := by
  go_enter Try.func23, Try.ntmps23
  go_wp2
  go_ret
  exact ⟨⟨_, rfl, by decide⟩, rfl⟩
theorem num18 (x : Int) (w : World) : Calls Try.prog 19 #[.int .i64 x] w fun e w' => e = .returned (.int .i64 x) ∧ w' = w := by
  go_enter Try.func19, Try.ntmps19
  go_wp2
  go_ret
  exact ⟨rfl, rfl⟩
end Go.Proofs.Ytpgppdkbkkljnaa
