/- A frame above a stub, and the way back by Leave: lists (for StackCalls). -/
import Derived.Test.YtgmiemekcloknaaX10d
namespace Go.Proofs.Ytgmiemekcloknaa
open Go.RowKit
set_option maxHeartbeats 1000000
set_option maxRecDepth 100000
set_option linter.unusedVariables false

def new0 : List Int := [0, 0, 0, 24, 0, 0, 0, 16, 4, 1, 1, 2, 0, 0, 0, 0, 0, 0, 0, 0, 0, 0, 0, 0]
theorem new0_eq : newF fmt0 = new0 := by kernel_rfl
theorem sl0_eq : slL fmt0 0 = [(0, 4), (4, 1), (5, 1)] := by kernel_rfl
/-- the state behind Enter -/
def calS (z : Nat) (zs : List Int) : Ks := ⟨z, zs ++ new0, zs.length, true⟩
theorem getD_app (zs ds : List Int) (i : Nat) : (zs ++ ds).getD (zs.length + i) 0 = ds.getD i 0 := by
  rw [List.getD_eq_getElem?_getD, List.getElem?_append_right (by omega), List.getD_eq_getElem?_getD]
  congr 2
  omega
theorem nu_new (zs : List Int) : nu (zs ++ new0) zs.length = 24 ∧ nu (zs ++ new0) (zs.length + 4) = 16 := by
  constructor
  · unfold nu
    rw [beV4]
    have := getD_app zs new0 0
    rw [Nat.add_zero] at this
    rw [this, getD_app zs new0 1, getD_app zs new0 2, getD_app zs new0 3]
    decide
  · unfold nu
    rw [beV4, getD_app zs new0 4, show zs.length + 4 + 1 = zs.length + 5 by omega, show zs.length + 4 + 2 = zs.length + 6 by omega, show zs.length + 4 + 3 = zs.length + 7 by omega, getD_app zs new0 5, getD_app zs new0 6, getD_app zs new0 7]
    decide
/-- a state of the call's frame: below it the same bytes, the frame's head as it was -/
structure CalI (zs : List Int) (t : Ks) : Prop where
  ok : OkK t
  on : t.on = true
  size : t.size = 2048
  fr : t.fr = zs.length
  pre : t.bs.take (zs.length + 16) = zs ++ new0.take 16
theorem CalI.len {zs : List Int} {t : Ks} (h : CalI zs t) : zs.length + 16 ≤ t.bs.length := by
  have := congrArg List.length h.pre
  rw [List.length_take, List.length_append] at this
  have e : (new0.take 16).length = 16 := by decide
  omega
theorem CalI.nus {zs : List Int} {t : Ks} (h : CalI zs t) : posK t = zs.length + 16 ∧ endK t = zs.length + 24 ∧ lszK t = 8 := by
  obtain ⟨n1, n2⟩ := nu_new zs
  have hp : (zs ++ new0).take (zs.length + 16) = zs ++ new0.take 16 := by
    rw [List.take_append]
    rw [List.take_of_length_le (by omega), show zs.length + 16 - zs.length = 16 by omega]
  have e1 : nu t.bs zs.length = 24 := by rw [← n1]; exact nu_take (k := zs.length + 16) (h.pre.trans hp.symm) _ (by omega)
  have e2 : nu t.bs (zs.length + 4) = 16 := by rw [← n2]; exact nu_take (k := zs.length + 16) (h.pre.trans hp.symm) _ (by omega)
  have p1 : posK t = zs.length + 16 := by unfold posK; rw [h.fr, e2]
  have p2 : endK t = zs.length + 24 := by unfold endK; rw [h.fr, e1]
  exact ⟨p1, p2, by unfold lszK; rw [p1, p2]; omega⟩
theorem CalI.loc {zs : List Int} {t : Ks} (h : CalI zs t) (x : Nat) (n : Int) (hn : n = 1 ∨ n = 2 ∨ n = 4) (hx : (x : Int) + n ≤ 8) : locE t x n = 0 := by
  unfold locE
  rw [if_neg (fun h => h hn), if_neg (by rw [h.on]; simp), if_neg (by rw [h.nus.2.2]; omega)]
theorem calI_of {zs : List Int} {t t' : Ks} (h : CalI zs t) (ok : OkK t') (h1 : t'.on = t.on) (h2 : t'.size = t.size) (h3 : t'.fr = t.fr) (h4 : t'.bs.take (zs.length + 16) = t.bs.take (zs.length + 16)) : CalI zs t' :=
  ⟨ok, h1.trans h.on, h2.trans h.size, h3.trans h.fr, h4.trans h.pre⟩
theorem calI_push {zs : List Int} {t : Ks} (h : CalI zs t) (x : Nat) : CalI zs (pushS t x) := by
  have ok := ok_push h.ok x
  have hl := h.len
  unfold pushS at ok ⊢
  split
  · rename_i h0
    rw [if_pos h0] at ok
    exact calI_of h ok rfl rfl rfl (by simp only; rw [List.take_append_of_le_length hl])
  · exact h
theorem calI_roll {zs : List Int} {t : Ks} (h : CalI zs t) (n k : Nat) : CalI zs (rollS t n k) := by
  have ok := ok_roll h.ok n k
  obtain ⟨p1, p2, p3⟩ := h.nus
  unfold rollS at ok ⊢
  split
  · rename_i h0
    rw [if_pos h0] at ok
    obtain ⟨_, h2⟩ := lack_zero h0.1
    have hb := h.ok.bd h.on
    refine calI_of h ok rfl rfl rfl ?_
    simp only
    unfold rollL
    rw [List.take_append_of_le_length (by simp; omega), List.take_take, Nat.min_eq_left (by omega)]
  · exact h
theorem calI_args {zs : List Int} {t : Ks} (h : CalI zs t) (xs : List Nat) : CalI zs (argsS t xs) ∧ lackE t 0 = 0 := by
  have ok := ok_args h.ok xs
  obtain ⟨p1, p2, p3⟩ := h.nus
  have e : lackE t 0 = 0 := by unfold lackE; rw [if_neg (by rw [h.on]; simp), if_neg (by omega)]
  refine ⟨?_, e⟩
  unfold argsS at ok ⊢
  rw [if_pos e] at ok ⊢
  obtain ⟨k1, k2, k3⟩ := putA_keep (posK t) (slL (frF t.bs t.fr) 0) xs t.bs (fun p hp => ⟨(args_fit h.ok h.on p hp).1, (args_fit h.ok h.on p hp).2.2⟩) h.ok.okb
  rw [p1] at k2
  exact calI_of h ok rfl rfl rfl (by simp only; rw [p1]; exact k2)
theorem calI_first {zs : List Int} (ok : OkK (calS 2048 zs)) : CalI zs (calS 2048 zs) ∧ locV (calS 2048 zs) 0 4 = 0 ∧ locV (calS 2048 zs) 4 2 = 0 := by
  have h : CalI zs (calS 2048 zs) := ⟨ok, rfl, rfl, rfl, by
    show (zs ++ new0).take (zs.length + 16) = _
    rw [List.take_append, List.take_of_length_le (by omega), show zs.length + 16 - zs.length = 16 by omega]⟩
  obtain ⟨p1, p2, p3⟩ := h.nus
  have g : ∀ i, (calS 2048 zs).bs.getD (zs.length + i) 0 = new0.getD i 0 := fun i => getD_app zs new0 i
  refine ⟨h, ?_, ?_⟩
  · unfold locV
    rw [if_pos (h.loc 0 4 (by omega) (by omega)), p1]
    unfold beV
    rw [if_neg (by omega), if_neg (by omega), Nat.add_zero, show zs.length + 16 + 1 = zs.length + 17 by omega, show zs.length + 16 + 2 = zs.length + 18 by omega, show zs.length + 16 + 3 = zs.length + 19 by omega, g 16, g 17, g 18, g 19]
    decide
  · unfold locV
    rw [if_pos (h.loc 4 2 (by omega) (by omega)), p1]
    unfold beV
    rw [if_neg (by omega), if_pos rfl, show zs.length + 16 + 4 = zs.length + 20 by omega, show zs.length + 20 + 1 = zs.length + 21 by omega, g 20, g 21]
    decide
/-- behind Leave: the stub on top, and no frame -/
theorem calI_leave {zs : List Int} {t : Ks} (h : CalI zs t) : leaveE t = 0 ∧ leaveS t = ⟨2048, zs, 0, false⟩ := by
  have e : leaveE t = 0 := by unfold leaveE lackE; rw [if_neg (by rw [h.on]; simp), if_neg (by omega)]
  refine ⟨e, ?_⟩
  unfold leaveS
  rw [if_pos e, h.fr, h.size]
  have := congrArg (List.take zs.length) h.pre
  rw [List.take_take, Nat.min_eq_left (by omega), List.take_append_of_le_length (Nat.le_refl _), List.take_length] at this
  rw [this]
theorem off_back {s : Ks} (ok : OkK s) (hsz : s.size = 2048) (x y z : Nat) (hx : x < 4294967296) (hy : y < 4294967296) (hz : z < 4294967296) (h : stubUE s = 0) :
    stubE ⟨2048, (stubS s x y z).bs, 0, false⟩ = 0 ∧ unV ⟨2048, (stubS s x y z).bs, 0, false⟩ 0 = x ∧ unV ⟨2048, (stubS s x y z).bs, 0, false⟩ 4 = y ∧ unV ⟨2048, (stubS s x y z).bs, 0, false⟩ 8 = z ∧ unstubS ⟨2048, (stubS s x y z).bs, 0, false⟩ = s := by
  obtain ⟨b1, b2, b3, b4, b5, b6⟩ := stub_back ok x y z hx hy hz h
  have e0 := stub_bs x y z h
  have hne : (stubS s x y z).bs ≠ [] := by
    intro e
    have := congrArg List.length e
    rw [e0] at this
    simp only [List.length_append, putStub_len, List.length_nil] at this
    omega
  have c1 : stubE ⟨2048, (stubS s x y z).bs, 0, false⟩ = 0 := by
    unfold stubE
    simp only
    rw [if_neg (by simp), if_neg hne]
  unfold unV at b2 b3 b4 ⊢
  unfold unstubS at b5 ⊢
  rw [if_pos b1] at b2 b3 b4 b5
  rw [if_pos c1, if_pos c1, if_pos c1, if_pos c1]
  refine ⟨c1, b2, b3, b4, ?_⟩
  have hs1 : (stubS s x y z).size = 2048 := (size_stub s x y z).trans hsz
  rw [hs1] at b5
  exact b5
theorem splice_in (zs D : List Int) (Q i : Nat) (hQ : Q ≤ zs.length) (hi : i < D.length) : (splice zs Q D).getD (Q + i) 0 = D.getD i 0 := by
  unfold splice
  have hl : (zs.take Q).length = Q := by simp; omega
  rw [List.getD_eq_getElem?_getD, List.getElem?_append_right (by omega), hl, show Q + i - Q = i by omega, List.getElem?_append_left hi, List.getD_eq_getElem?_getD]
theorem splice_low (zs D : List Int) (Q i : Nat) (hQ : Q ≤ zs.length) (hi : i < Q) : (splice zs Q D).getD i 0 = zs.getD i 0 := by
  unfold splice
  have hl : (zs.take Q).length = Q := by simp; omega
  rw [List.getD_eq_getElem?_getD, List.getElem?_append_left (by omega), List.getElem?_take, if_pos hi, List.getD_eq_getElem?_getD]
/-- the second argument, told by its byte -/
theorem calI_second {zs : List Int} (ok : OkK (calS 2048 zs)) (xs : List Nat) (h1 : 1 < xs.length) : locE (argsS (calS 2048 zs) xs) 4 1 = 0 ∧ locV (argsS (calS 2048 zs) xs) 4 1 = ((xs.getD 1 0 % 256 : Nat) : Int) := by
  obtain ⟨h, _, _⟩ := calI_first ok
  obtain ⟨p1, p2, p3⟩ := h.nus
  obtain ⟨ha, hla⟩ := calI_args h xs
  obtain ⟨q1, q2, q3⟩ := ha.nus
  have he := ha.loc 4 1 (by omega) (by omega)
  refine ⟨he, ?_⟩
  have hf : frF (zs ++ new0) zs.length = fmt0 := by rw [← new0_eq]; exact (frF_new zs fmt0 (by decide) (by decide)).2
  have hlen : (zs ++ new0).length = zs.length + 24 := by rw [List.length_append]; rfl
  unfold locV
  rw [if_pos he, q1]
  unfold beV
  rw [if_pos rfl]
  unfold argsS
  rw [if_pos hla, p1]
  simp only
  show (putA (zs.length + 16) (slL (frF (zs ++ new0) zs.length) 0) xs (zs ++ new0)).getD _ 0 = _
  rw [hf, sl0_eq]
  match xs, h1 with
  | [x0, x1], _ =>
    simp only [putA]
    have l1 : (splice (zs ++ new0) (zs.length + 16 + 0) (putL (x0 : Int) ((4 : Nat) : Int))).length = zs.length + 24 := by rw [length_splice _ _ _ (by rw [hlen]; simp [putL])]; exact hlen
    have := splice_in (splice (zs ++ new0) (zs.length + 16 + 0) (putL (x0 : Int) ((4 : Nat) : Int))) (putL (x1 : Int) ((1 : Nat) : Int)) (zs.length + 16 + 4) 0 (by rw [l1]; omega) (by simp [putL])
    rw [Nat.add_zero] at this
    rw [this]
    simp [putL]
  | x0 :: x1 :: x2 :: r, _ =>
    have e : putA (zs.length + 16) [(0, 4), (4, 1), (5, 1)] (x0 :: x1 :: x2 :: r) (zs ++ new0) = splice (splice (splice (zs ++ new0) (zs.length + 16 + 0) (putL (x0 : Int) ((4 : Nat) : Int))) (zs.length + 16 + 4) (putL (x1 : Int) ((1 : Nat) : Int))) (zs.length + 16 + 5) (putL (x2 : Int) ((1 : Nat) : Int)) := by
      cases r <;> simp [putA]
    rw [e]
    have l1 : (splice (zs ++ new0) (zs.length + 16 + 0) (putL (x0 : Int) ((4 : Nat) : Int))).length = zs.length + 24 := by rw [length_splice _ _ _ (by rw [hlen]; simp [putL])]; exact hlen
    have l2 : (splice (splice (zs ++ new0) (zs.length + 16 + 0) (putL (x0 : Int) ((4 : Nat) : Int))) (zs.length + 16 + 4) (putL (x1 : Int) ((1 : Nat) : Int))).length = zs.length + 24 := by rw [length_splice _ _ _ (by rw [l1]; simp [putL])]; exact l1
    rw [splice_low _ _ _ _ (by rw [l2]; omega) (by omega)]
    have := splice_in (splice (zs ++ new0) (zs.length + 16 + 0) (putL (x0 : Int) ((4 : Nat) : Int))) (putL (x1 : Int) ((1 : Nat) : Int)) (zs.length + 16 + 4) 0 (by rw [l1]; omega) (by simp [putL])
    rw [Nat.add_zero] at this
    rw [this]
    simp [putL]
end Go.Proofs.Ytgmiemekcloknaa
