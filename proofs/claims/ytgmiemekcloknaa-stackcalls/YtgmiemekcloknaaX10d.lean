/- Stubs, frames above them, and the way back: lists. -/
import Derived.Test.YtgmiemekcloknaaM10F
namespace Go.Proofs.Ytgmiemekcloknaa
open Go.RowKit
set_option maxHeartbeats 1000000
set_option maxRecDepth 100000
set_option linter.unusedVariables false

theorem nu_app (zs ds : List Int) (p : Nat) (h : p + 4 ≤ zs.length) : nu (zs ++ ds) p = nu zs p :=
  (nu_take (zs := zs) (k := zs.length) (by rw [List.take_append_of_le_length (Nat.le_refl _)]) p h).symm
/-- bytes on top, and an end that goes up, keep the way -/
theorem thr_app (zs ds : List Int) (T g : Nat) : ∀ (k f u e e' : Nat), Chn zs f u → f + 12 ≤ zs.length → e ≤ e' → thrB zs T g k f e = true → thrB (zs ++ ds) T g k f e' = true
  | 0, f, u, e, e', _, _, _, h => by simp [thrB] at h
  | k + 1, f, u, e, e', hc, hf, he, h => by
    rw [thrB] at h ⊢
    rw [nu_app zs ds f (by omega)]
    by_cases hg : f = g
    · rw [if_pos hg] at h ⊢
      simp only [decide_eq_true_eq] at h ⊢
      omega
    · rw [if_neg hg] at h ⊢
      by_cases h0 : f = 0
      · rw [if_pos h0] at h; cases h
      · rw [if_neg h0] at h ⊢
        obtain ⟨g1, g2, g3⟩ := hc.lt h0
        rw [nu_app zs ds (f - 4) (by omega)]
        exact thr_app zs ds T g k _ _ f f g3 (by omega) (Nat.le_refl _) h
theorem stub_ok {t : Ks} (hon : t.on = true) (h : t.bs.length + 16 ≤ t.size) : stubUE t = 0 := by
  have e : lackE t 0 = 0 := by unfold lackE; rw [if_neg (by rw [hon]; simp), if_neg (by omega)]
  unfold stubUE roomForE roomE
  rw [if_pos e, if_neg (by omega)]
theorem stub_bs {t : Ks} (x y z : Nat) (h : stubUE t = 0) : stubS t x y z = { t with bs := t.bs ++ putStub x y z t.fr } := by unfold stubS; rw [if_pos h]
theorem putStub_len (x y z f : Nat) : (putStub x y z f).length = 16 := by simp [putStub, putL]
theorem stub_back {t : Ks} (ok : OkK t) (x y z : Nat) (hx : x < 4294967296) (hy : y < 4294967296) (hz : z < 4294967296) (h : stubUE t = 0) :
    stubE (stubS t x y z) = 0 ∧ unV (stubS t x y z) 0 = x ∧ unV (stubS t x y z) 4 = y ∧ unV (stubS t x y z) 8 = z ∧ unstubS (stubS t x y z) = t ∧ nu (stubS t x y z).bs ((stubS t x y z).bs.length - 4) = t.fr := by
  have hon : t.on = true := (lack_zero (roomFor_zero h).1).1
  have hb := ok.bd hon
  have hmo := ok.most
  have hss := ok.sz
  have e0 := stub_bs x y z h
  have hl : (t.bs ++ putStub x y z t.fr).length = t.bs.length + 16 := by rw [List.length_append, putStub_len]
  have n0 : nu (t.bs ++ putStub x y z t.fr) t.bs.length = x := nu_put t.bs _ x hx
  have n1 : nu (t.bs ++ putStub x y z t.fr) (t.bs.length + 4) = y := nu_put1 t.bs _ y x hy
  have n2 : nu (t.bs ++ putStub x y z t.fr) (t.bs.length + 8) = z := by
    have := nu_put (t.bs ++ (putL (x : Int) 4 ++ putL (y : Int) 4)) (putL (t.fr : Int) 4) z hz
    rw [show (t.bs ++ (putL (x : Int) 4 ++ putL (y : Int) 4)).length = t.bs.length + 8 by simp [putL]] at this
    refine Eq.trans ?_ this
    congr 1
    simp [putStub]
  have n3 : nu (t.bs ++ putStub x y z t.fr) (t.bs.length + 12) = t.fr := by
    have := nu_put (t.bs ++ (putL (x : Int) 4 ++ (putL (y : Int) 4 ++ putL (z : Int) 4))) [] t.fr (by omega)
    rw [show (t.bs ++ (putL (x : Int) 4 ++ (putL (y : Int) 4 ++ putL (z : Int) 4))).length = t.bs.length + 12 by simp [putL]] at this
    refine Eq.trans ?_ this
    congr 1
    simp [putStub]
  have hen : endK { t with bs := t.bs ++ putStub x y z t.fr } = endK t := by
    unfold endK
    simp only
    rw [nu_app _ _ _ (by omega)]
  have s0 : stubE (stubS t x y z) = 0 := by
    rw [e0]
    unfold stubE
    simp only
    rw [if_pos hon, if_neg, hl, show t.bs.length + 16 - 4 = t.bs.length + 12 by omega, if_pos n3]
    unfold cnt
    rw [hen]
    simp only
    rw [hl]
    omega
  refine ⟨s0, ?_, ?_, ?_, ?_, ?_⟩
  · unfold unV; rw [if_pos s0, e0]; simp only; rw [hl, show t.bs.length + 16 - 16 + 0 = t.bs.length by omega, n0]
  · unfold unV; rw [if_pos s0, e0]; simp only; rw [hl, show t.bs.length + 16 - 16 + 4 = t.bs.length + 4 by omega, n1]
  · unfold unV; rw [if_pos s0, e0]; simp only; rw [hl, show t.bs.length + 16 - 16 + 8 = t.bs.length + 8 by omega, n2]
  · unfold unstubS
    rw [if_pos s0, e0]
    simp only
    rw [hl, show t.bs.length + 16 - 16 = t.bs.length by omega, show t.bs.length + 16 - 4 = t.bs.length + 12 by omega, n3, List.take_append_of_le_length (Nat.le_refl _), List.take_length]
    obtain ⟨sz, bs, fr, on⟩ := t
    simp only at hon ⊢
    rw [hon]
  · rw [e0]; simp only; rw [hl, show t.bs.length + 16 - 4 = t.bs.length + 12 by omega, n3]
theorem fmt0_new : posF fmt0 + szF fmt0 = 24 ∧ (locR fmt0).2.2 = 0 := by constructor <;> kernel_rfl
theorem call_ok {t : Ks} (ok : OkK t) (x y z : Nat) (hx : x < 4294967296) (hy : y < 4294967296) (hz : z < 4294967296) (hon : t.on = true) (h : t.bs.length + 40 ≤ t.size) :
    stubUE t = 0 ∧ enterE (stubS t x y z) fmt0 = 0 ∧ enterS (stubS t x y z) fmt0 = ⟨t.size, t.bs ++ (putStub x y z t.fr ++ newF fmt0), t.bs.length + 16, true⟩ := by
  have h1 := stub_ok hon (by omega)
  have h2 := (stub_back ok x y z hx hy hz h1).1
  have e0 := stub_bs x y z h1
  obtain ⟨f1, f2⟩ := fmt0_new
  have hl : (t.bs ++ putStub x y z t.fr).length = t.bs.length + 16 := by rw [List.length_append, putStub_len]
  have hno : ¬ ((locR fmt0).2.2 ≠ 0 ∨ (stubS t x y z).on = true ∧ stubE (stubS t x y z) ≠ 0) := fun h => h.elim (fun e => e f2) (fun e => e.2 h2)
  have hro : ¬ roomE (stubS t x y z) (posF fmt0 + szF fmt0) ≠ 0 := by
    rw [f1, e0]
    unfold roomE
    simp only
    rw [hl, if_neg (by omega)]
    simp
  have h3 : enterE (stubS t x y z) fmt0 = 0 := by
    unfold enterE
    rw [if_neg hno, if_neg hro]
  refine ⟨h1, h3, ?_⟩
  unfold enterS
  rw [if_pos h3, e0]
  simp only
  rw [hl, List.append_assoc]
/-- what a run of calls and pushes keeps -/
structure ThrI (s1 : Ks) (T g : Nat) (t : Ks) : Prop where
  ok : OkK t
  on : t.on = true
  size : t.size = 2048
  pre : t.bs.take T = s1.bs
  le : T ≤ t.bs.length
  thr : thrB t.bs T g (t.fr + 1) t.fr t.bs.length = true
theorem thrI_app {s1 t : Ks} {T g : Nat} (h : ThrI s1 T g t) (ds : List Int) (ok : OkK { t with bs := t.bs ++ ds }) : ThrI s1 T g { t with bs := t.bs ++ ds } := by
  have hb := h.ok.bd h.on
  refine ⟨ok, h.on, h.size, ?_, ?_, ?_⟩
  · simp only
    rw [List.take_append_of_le_length h.le]; exact h.pre
  · simp only
    rw [List.length_append]; have := h.le; omega
  · simp only
    exact thr_app t.bs ds T g _ _ _ _ _ (h.ok.cur h.on) (by omega) (by rw [List.length_append]; omega) h.thr
theorem thrI_push {s1 t : Ks} {T g : Nat} (h : ThrI s1 T g t) (x : Nat) : ThrI s1 T g (pushS t x) ∧ (pushS t x).bs.length ≤ t.bs.length + 4 := by
  have ok := ok_push h.ok x
  unfold pushS at ok ⊢
  split
  · rename_i h0
    rw [if_pos h0] at ok
    exact ⟨thrI_app h _ ok, by simp [putL]⟩
  · exact ⟨h, by omega⟩
theorem thrI_call {s1 t : Ks} {T g : Nat} (h : ThrI s1 T g t) (hg : g < T) (x : Nat) (hx : x < 4294967296) (hl : t.bs.length + 40 ≤ 2048) :
    stubUE t = 0 ∧ enterE (stubS t x 0 0) fmt0 = 0 ∧ ThrI s1 T g (enterS (stubS t x 0 0) fmt0) ∧ (enterS (stubS t x 0 0) fmt0).bs.length ≤ t.bs.length + 40 := by
  obtain ⟨c1, c2, c3⟩ := call_ok h.ok x 0 0 hx (by omega) (by omega) h.on (by rw [h.size]; exact hl)
  have ok2 := ok_enter (ok_stub h.ok x 0 0) okb_0
  have hn := (stub_back h.ok x 0 0 hx (by omega) (by omega) c1).2.2.2.2.2
  rw [stub_bs x 0 0 c1] at hn
  simp only [List.length_append, putStub_len] at hn
  rw [show t.bs.length + 16 - 4 = t.bs.length + 12 by omega] at hn
  have hb := h.ok.bd h.on
  have hle := h.le
  have hnl : (newF fmt0).length = 24 := by rw [newF_len]; exact fmt0_new.1
  have hlen : (t.bs ++ (putStub x 0 0 t.fr ++ newF fmt0)).length = t.bs.length + 40 := by rw [List.length_append, List.length_append, putStub_len, hnl]
  refine ⟨c1, c2, ?_, ?_⟩
  · rw [c3] at ok2 ⊢
    refine ⟨ok2, rfl, h.size, ?_, by simp only; rw [hlen]; omega, ?_⟩
    · simp only
      rw [List.take_append_of_le_length h.le]; exact h.pre
    · simp only
      rw [thrB, if_neg (by omega), if_neg (by omega)]
      have e1 : nu (t.bs ++ (putStub x 0 0 t.fr ++ newF fmt0)) (t.bs.length + 16 - 4) = t.fr := by
        rw [← List.append_assoc, nu_app _ _ _ (by rw [List.length_append, putStub_len]; omega), show t.bs.length + 16 - 4 = t.bs.length + 12 by omega]
        exact hn
      rw [e1]
      refine thr_app t.bs _ T g _ _ _ t.bs.length _ (h.ok.cur h.on) (by omega) (by omega) ?_
      rw [thrB_fuel t.bs T g _ (t.fr + 1) t.fr t.bs.length _ (h.ok.cur h.on) (by omega) (by omega)]
      exact h.thr
  · rw [c3]
    simp only
    rw [hlen]
    omega
theorem thrI_first {s : Ks} (ok : OkK s) (hsz : s.size = 2048) (a b c : Nat) (h : stubUE s = 0) : ThrI (stubS s a b c) (s.bs.length + 16) s.fr (stubS s a b c) := by
  have hon : s.on = true := (lack_zero (roomFor_zero h).1).1
  have hb := ok.bd hon
  have e0 := stub_bs a b c h
  have ok1 := ok_stub ok a b c
  rw [e0] at ok1 ⊢
  have hl : (s.bs ++ putStub a b c s.fr).length = s.bs.length + 16 := by rw [List.length_append, putStub_len]
  refine ⟨ok1, hon, hsz, by simp only; rw [← hl, List.take_length], by simp only; omega, ?_⟩
  simp only
  rw [thrB, if_pos rfl, nu_app _ _ _ (by omega)]
  have he : endK s = s.fr + nu s.bs s.fr := rfl
  simp only [decide_eq_true_eq]
  omega
theorem thrI_end {s t : Ks} (ok : OkK s) (hsz : s.size = 2048) (a b c : Nat) (ha : a < 4294967296) (hb : b < 4294967296) (hc : c < 4294967296) (h : stubUE s = 0) (ht : ThrI (stubS s a b c) (s.bs.length + 16) s.fr t) : thrE t (s.bs.length + 16) = 0 ∧ thrS t (s.bs.length + 16) = stubS s a b c := by
  have hon : s.on = true := (lack_zero (roomFor_zero h).1).1
  have hbd := ht.ok.bd ht.on
  have hm := ok.mod
  have e0 := stub_bs a b c h
  have hl : (stubS s a b c).bs.length = s.bs.length + 16 := by rw [e0]; simp only; rw [List.length_append, putStub_len]
  have hn := (stub_back ok a b c ha hb hc h).2.2.2.2.2
  have hn2 : nu t.bs (s.bs.length + 16 - 4) = s.fr := by
    rw [hl] at hn
    rw [← hn]
    exact nu_take (k := s.bs.length + 16) (by rw [ht.pre, ← hl, List.take_length]) _ (by omega)
  have e1 : thrE t (s.bs.length + 16) = 0 := by
    unfold thrE
    rw [if_pos ⟨ht.on, by omega, by omega, ht.le⟩, hn2, thrB_fuel t.bs _ _ _ (t.fr + 1) t.fr t.bs.length _ (ht.ok.cur ht.on) (by omega) (by omega), if_pos ht.thr]
  refine ⟨e1, ?_⟩
  unfold thrS
  rw [if_pos e1, hn2, ht.pre, ht.size, e0]
  simp only
  rw [hsz, hon]
end Go.Proofs.Ytgmiemekcloknaa
