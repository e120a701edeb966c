/- Contracts of blorb.gameWithin and blorb.Game for any bytes: the game, in memory of the call's own, or why there is none. -/
import Derived.Test.YtedihackifchcaaX6g
namespace Go.Proofs.Ytedihackifchcaa
open Go.RowKit Go.Maps
set_option maxHeartbeats 1000000
set_option maxRecDepth 100000
set_option linter.unusedVariables false

abbrev EXEC : ByteArray := ⟨#[69, 120, 101, 99]⟩
abbrev GLUL : ByteArray := ⟨#[71, 76, 85, 76]⟩
abbrev GlulB : ByteArray := ⟨#[71, 108, 117, 108]⟩
abbrev FORMB : ByteArray := ⟨#[70, 79, 82, 77]⟩
def isGame (a : En) : Bool := decide (a.1 = EXEC ∧ a.2.1 = 0)
def pickR (cs : List Sc) (L : Int) : Option En → List Int × Int × Int
  | none => ([], 62, 12)
  | some a => if (resS cs a).2.2.1 ≠ GLUL then ([], 62, 12) else ((resS cs a).2.2.2, 0, L)
/-- the game in a container -/
def withinR (zs : List Int) : List Int × Int × Int := if (openR zs).2.1 ≠ 0 then ([], (openR zs).2.1, (openR zs).2.2) else pickR (parseR zs).1 zs.length ((openR zs).1.find? isGame)
/-- which game any bytes hold, or why none -/
def gameR (zs : List Int) : List Int × Int × Int := if strA (seg zs 0 (min zs.length 4)) = GlulB then (zs, 0, zs.length) else if strA (seg zs 0 (min zs.length 4)) = FORMB then withinR zs else ([], 63, 0)
/-- what Game answers -/
def GRet (w : World) (R : List Int × Int × Int) (e : Ending) (w' : World) : Prop :=
  Below w.heap.size w w' ∧ ((R.2.1 ≠ 0 ∧ e = .returned (.tuple #[.slice none 0 0, .int .i64 R.2.1, .int .i64 R.2.2])) ∨
    (R.2.1 = 0 ∧ ∃ a l c, e = .returned (.tuple #[.slice a l c, .int .i64 0, .int .i64 R.2.2]) ∧ w'.ownsRow w.heap.size 5 1 (.slice a l c) l (bytesV R.1) ∧ OkB R.1))
theorem key_exec : KeyOk EXEC 0 := ⟨by decide, by decide, by decide⟩
theorem within_any (g o L cap : Nat) (zs : List Int) (w : World) (h : Bs w g o L zs) (hok : OkB zs) (hm : L ≤ 1000012) (hcap : L ≤ cap) :
    Calls Try.prog 43 #[.slice (some ⟨g, o, none⟩) L cap] w (GRet w (withinR zs)) := by
  have hlen := h.1
  have HO := hidden (open_any g o L cap zs w h hok hm hcap)
  obtain ⟨R, hR⟩ : ∃ R, R = withinR zs := ⟨_, rfl⟩
  rw [← hR]
  unfold withinR at hR
  rw [hlen] at hR
  have HR := hidden hR
  clear h hR
  generalize openR zs = Q at *
  generalize (parseR zs).1 = cs at *
  have hLi : (L : Int) ≤ 1000012 := by omega
  go_enter Try.func43, Try.ntmps43
  go_wp2_with fail
  refine HO.out.mono ?_
  rintro e w1 ⟨hb1, ⟨hne, rfl⟩ | ⟨hz, ao, cv, ks, an, cn, bm, D, rfl, hgk, hks, hall, hk1024, hon, hom, hmi, heo, hlt, h512, hown⟩⟩
  · rw [if_pos hne] at HR
    obtain rfl := HR.out
    have hne2 : (Q.2.1 != 0) = true := by simpa using hne
    generalize Q.2.1 = E at *
    generalize Q.2.2 = A at *
    clear HR HO
    go_wp2
    refine bodyPost_ret (v := .tuple #[.slice none 0 0, .int .i64 E, .int .i64 A]) (by simp [results, Try.results43, go_sem]) rfl ?_
    exact ⟨hb1.alloc hb1.size _, .inl ⟨hne, rfl⟩⟩
  rw [if_neg (not_not_intro hz)] at HR
  clear HO
  generalize hA : Q.1 = acc at *
  clear hA hz
  have hs1 := hb1.size
  have hb2 := hb1.alloc hs1 (.cells #[.slice ao ks.length cv, .slice an acc.length cn, .map (some bm)] 84)
  have hB := Box3.new w1 (.slice ao ks.length cv) (.slice an acc.length cn) (.map (some bm)) 84
  have hst : Below w1.heap.size w1 (w1.alloc (.cells #[.slice ao ks.length cv, .slice an acc.length cn, .map (some bm)] 84)) := (Below.refl _ _).alloc (Nat.le_refl _) _
  have HGK := hidden (hgk.later hst)
  have HOM := hidden (hom.alloc (.cells #[.slice ao ks.length cv, .slice an acc.length cn, .map (some bm)] 84))
  have HOW : Hid (∀ k ∈ ks, (w1.alloc (.cells #[.slice ao ks.length cv, .slice an acc.length cn, .map (some bm)] 84)).ownsRow w.heap.size 5 1 (.slice k.a k.l k.c) k.l (bytesV k.d)) := hidden fun k hk => own_later (hown k hk) hst
  obtain ⟨t0, t1, t2, -⟩ := hB.cells
  clear hgk hon hom hown hB hst hb1
  generalize hw2 : w1.alloc (.cells #[.slice ao ks.length cv, .slice an acc.length cn, .map (some bm)] 84) = w2 at *
  generalize hbc : w1.heap.size = bc at *
  have HMI := hidden hmi
  have hkn2 : (ks.length : Int) ≤ 1024 := by omega
  clear hmi hs1
  cases hf : acc.find? isGame with
  | none =>
    have hR : R = ([], 62, 12) := by rw [HR.out, hf]; rfl
    subst hR
    have hhas : Maps.has D (keyL EXEC 0) = false := by
      cases hh : Maps.has D (keyL EXEC 0)
      · rfl
      · obtain ⟨a, ha, h1, h2⟩ := (HMI.out.2.1 EXEC 0 key_exec).1 hh
        have := List.find?_eq_none.1 hf a ha
        exact absurd (by unfold isGame; simp [h1, h2]) this
    clear HR hf
    go_wp2_with (at_lookup; refine wpList_lookup_own_ok_int _ rfl _ _ 82 rfl 88 3 .i64 nameLaw Try.underlying82 Try.underlying3 (zero3 _) bm acc.length D rfl HOM.out _ _ rfl (keyOf_name EXEC 0 key_exec) ?_; intro c hat hwc; rw [hhas])
    refine bodyPost_ret (v := .tuple #[.slice none 0 0, .int .i64 62, .int .i64 12]) (by simp [results, Try.results43, go_sem]) rfl ?_
    exact ⟨hb2, .inl ⟨by simp, rfl⟩⟩
  | some a =>
    have hmem : a ∈ acc := List.mem_of_find?_eq_some hf
    have hp : isGame a = true := List.find?_some hf
    unfold isGame at hp
    have hp2 : a.1 = EXEC ∧ a.2.1 = 0 := by simpa using hp
    have hR2 : R = pickR cs L (some a) := by rw [HR.out, hf]
    have hhas : Maps.has D (keyL EXEC 0) = true := (HMI.out.2.1 EXEC 0 key_exec).2 ⟨a, hmem, hp2⟩
    obtain ⟨hc0, hcn2⟩ := hlt _ hmem
    have HAT : Hid (∀ c, D.atKey (keyL EXEC 0) (.lit (.int .i64 0)) = .lit (.int .i64 c) → c = (a.2.2 : Nat)) := hidden fun c hc => by
      have := HMI.out.2.2 a hmem (.lit (.int .i64 0))
      rw [hp2.1, hp2.2, hc] at this
      simpa using this
    obtain ⟨b, off, hao, hck⟩ := HGK.out.1.at (by omega)
    subst hao
    have m0 := (hck _ hcn2).1
    have m1 := (hck _ hcn2).2
    have hcap2 := HGK.out.1.2.1
    have hkmem : ks[a.2.2] ∈ ks := List.getElem_mem hcn2
    have hko := hall _ hkmem
    have hres : resS cs a = (a.1, a.2.1, ks[a.2.2].id, ks[a.2.2].d) := by
      unfold resS
      rw [← hks]
      simp [List.getD_eq_getElem?_getD, hcn2, scOf]
    have hR3 : R = if ks[a.2.2].id ≠ GLUL then ([], 62, 12) else (ks[a.2.2].d, 0, (L : Int)) := by
      rw [hR2]
      show (if (resS cs a).2.2.1 ≠ GLUL then ([], 62, 12) else ((resS cs a).2.2.2, 0, (L : Int))) = _
      rw [hres]
    have HOWk := hidden (HOW.out _ hkmem)
    have HR3 := hidden hR3
    clear HR hf hR2 hR3 hres hck hmem hp hp2 hkmem HOW hlt hall HMI HGK
    generalize ks[a.2.2] = c at *
    generalize ks.length = kn at *
    obtain ⟨aU, aX, ix⟩ := a
    obtain ⟨cid, ca, cl, cc, cd⟩ := c
    simp only at *
    have hix : (ix : Int) < (kn : Int) := by omega
    by_cases hg : cid ≠ GLUL
    · have hR : R = ([], 62, 12) := by rw [HR3.out, if_pos hg]
      subst hR
      have hg2 := strlit_f [71, 76, 85, 76] hg
      clear HR3 hg
      go_wp2_with (at_lookup; refine wpList_lookup_own_ok_int _ rfl _ _ 82 rfl 88 3 .i64 nameLaw Try.underlying82 Try.underlying3 (zero3 _) bm acc.length D rfl HOM.out _ _ rfl (keyOf_name EXEC 0 key_exec) ?_; intro c hat hwc; rw [hhas]; obtain rfl := HAT.out c hat)
      refine bodyPost_ret (v := .tuple #[.slice none 0 0, .int .i64 62, .int .i64 12]) (by simp [results, Try.results43, go_sem]) rfl ?_
      exact ⟨hb2, .inl ⟨by simp, rfl⟩⟩
    · have hR : R = (cd, 0, (L : Int)) := by rw [HR3.out, if_neg hg]
      subst hR
      have hg2 : cid = GLUL := Classical.not_not.1 hg
      subst hg2
      clear HR3 hg
      go_wp2_with (at_lookup; refine wpList_lookup_own_ok_int _ rfl _ _ 82 rfl 88 3 .i64 nameLaw Try.underlying82 Try.underlying3 (zero3 _) bm acc.length D rfl HOM.out _ _ rfl (keyOf_name EXEC 0 key_exec) ?_; intro c hat hwc; rw [hhas]; obtain rfl := HAT.out c hat)
      refine bodyPost_ret (v := .tuple #[.slice ca cl cc, .int .i64 0, .int .i64 L]) (by simp [results, Try.results43, go_sem]) rfl ?_
      exact ⟨hb2, .inr ⟨rfl, ca, cl, cc, rfl, HOWk.out, hko.2.1⟩⟩
theorem game_any (g o L cap : Nat) (zs : List Int) (w : World) (h : Bs w g o L zs) (hok : OkB zs) (hm : L ≤ 1000012) (hcap : L ≤ cap) :
    Calls Try.prog 19 #[.slice (some ⟨g, o, none⟩) L cap] w (GRet w (gameR zs)) := by
  have hlen := h.1
  have hr := h.sub 0 (min L 4) cap (by omega) (by omega)
  rw [Nat.add_zero] at hr
  have e1 := conv_reads w _ _ _ _ (seg_okb hok 0 (min L 4)) hr
  have g1 : (L : Int) ≤ 1000012 := by omega
  have g3 : min (L : Int) 4 = ((min L 4 : Nat) : Int) := by omega
  have g4 : ((min L 4 : Nat) : Int) ≤ (cap : Int) := by omega
  have g5 : (0 : Int) ≤ ((min L 4 : Nat) : Int) := by omega
  have HW := hidden (within_any g o L cap zs w h hok hm hcap)
  have HC : Hid (Calls Try.prog 42 #[.slice (some ⟨g, o, none⟩) L cap] w fun e w' => ∃ v', e = .returned v' ∧ w'.ownsRow w.heap.size 5 1 v' L (bytesV zs) ∧ v' ≠ .slice none 0 0 ∧ Below w.heap.size w w') := hidden (Try.bytes_Clone_at ⟨g, o, none⟩ L cap zs w hlen (by omega) (fun i hi => by rw [plain_add]; exact h.2 i hi))
  have e2 : (convert 22 9 (.slice (some ⟨g, o, none⟩) (min L 4) cap)).run Try.prog w = .ok (.string (strA (seg zs 0 (min L 4)))) w := e1
  have hd : gameR zs = if strA (seg zs 0 (min L 4)) = GlulB then (zs, 0, (L : Int)) else if strA (seg zs 0 (min L 4)) = FORMB then withinR zs else ([], 63, 0) := by unfold gameR; rw [hlen]
  rw [hd]
  clear e1 hr hd h
  generalize strA (seg zs 0 (min L 4)) = S at *
  generalize min L 4 = M at *
  by_cases c1 : S = GlulB
  · rw [if_pos c1]
    subst c1
    clear HW
    go_enter Try.func19, Try.ntmps19
    go_wp2_with (go_at_call 42; refine HC.out.mono ?_; rintro e w1 ⟨v1, rfl, ho, -, hb⟩)
    obtain ⟨ao, cv, rfl⟩ := own_slice ho
    refine bodyPost_ret (v := .tuple #[.slice ao L cv, .int .i64 0, .int .i64 L]) (by simp [results, Try.results19, go_sem]) rfl ?_
    exact ⟨hb, .inr ⟨rfl, ao, L, cv, rfl, ho, hok⟩⟩
  rw [if_neg c1]
  have c1' := strlit_f [71, 108, 117, 108] c1
  by_cases c2 : S = FORMB
  · rw [if_pos c2]
    subst c2
    clear HC c1
    go_enter Try.func19, Try.ntmps19
    go_wp2_with fail
    refine HW.out.mono ?_
    rintro e w1 ⟨hb, ⟨hne, rfl⟩ | ⟨hz, a, l, c, rfl, ho, hd⟩⟩
    · go_wp2
      refine bodyPost_ret (v := .tuple #[.slice none 0 0, .int .i64 (withinR zs).2.1, .int .i64 (withinR zs).2.2]) (by simp [results, Try.results19, go_sem]) rfl ?_
      exact ⟨hb, .inl ⟨hne, rfl⟩⟩
    · go_wp2
      refine bodyPost_ret (v := .tuple #[.slice a l c, .int .i64 0, .int .i64 (withinR zs).2.2]) (by simp [results, Try.results19, go_sem]) rfl ?_
      exact ⟨hb, .inr ⟨hz, a, l, c, rfl, ho, hd⟩⟩
  · rw [if_neg c2]
    have c2' := strlit_f [70, 79, 82, 77] c2
    clear HW HC c1 c2
    go_enter Try.func19, Try.ntmps19
    go_wp2
    refine bodyPost_ret (v := .tuple #[.slice none 0 0, .int .i64 63, .int .i64 0]) (by simp [results, Try.results19, go_sem]) rfl ?_
    exact ⟨Below.refl _ _, .inl ⟨by simp, rfl⟩⟩
end Go.Proofs.Ytedihackifchcaa
