/- Layer 10: frames, the chain of frames, and a stack that is in order: lists and numbers alone. -/
import Derived.Test.YthhkennomnmjkaaS10d
namespace Go.Proofs.Ythhkennomnmjkaa
open Go.RowKit
set_option maxHeartbeats 1000000
set_option maxRecDepth 100000
set_option linter.unusedVariables false

/-- the format of the frame at f -/
def frF (zs : List Int) (f : Nat) : List Int := seg zs (f + 8) (fmtL (zs.drop (f + 8)))
/-- a frame lies at f and ends at t or ahead of it -/
structure IsFr (zs : List Int) (f t : Nat) : Prop where
  ne : fmtL (zs.drop (f + 8)) ≠ 0
  len : nu zs f = posF (frF zs f) + szF (frF zs f)
  pos : nu zs (f + 4) = posF (frF zs f)
  fits : f + posF (frF zs f) + szF (frF zs f) ≤ t
  tz : t ≤ zs.length
theorem frF_len {zs : List Int} {f : Nat} : (frF zs f).length = fmtL (zs.drop (f + 8)) := by
  have h := (fmtL_le (zs.drop (f + 8))).1
  unfold frF seg
  simp at h ⊢; omega
theorem frF_fmt {zs : List Int} {f : Nat} (h : fmtL (zs.drop (f + 8)) ≠ 0) : fmtL (frF zs f) = (frF zs f).length := by
  rw [frF_len]
  exact fmtL_take _ _ h (Nat.le_refl _)
theorem frF_pairs {zs : List Int} {f : Nat} (hb : OkB zs) (h : fmtL (zs.drop (f + 8)) ≠ 0) : isPairs (frF zs f) :=
  pairs_of _ (fun c hc => hb c (List.mem_of_mem_drop hc)) h
theorem IsFr.two {zs : List Int} {f t : Nat} (h : IsFr zs f t) : 2 ≤ (frF zs f).length := by rw [frF_len]; exact fmtL_two h.ne
theorem IsFr.bd {zs : List Int} {f t : Nat} (h : IsFr zs f t) : 12 ≤ posF (frF zs f) ∧ posF (frF zs f) % 4 = 0 ∧ szF (frF zs f) % 4 = 0 ∧ 8 + (frF zs f).length ≤ posF (frF zs f) ∧ f + nu zs f ≤ t ∧ 12 ≤ nu zs f ∧ nu zs f % 4 = 0 ∧ f + 12 ≤ t := by
  have h1 := posF_mod (frF zs f)
  have h2 := szF_mod (frF zs f)
  have h3 := h.two
  have h4 := h.len
  have h5 := h.fits
  omega
/-- numbers and formats by the bytes that tell them -/
theorem take_getD {zs ys : List Int} {k : Nat} (h : zs.take k = ys.take k) (i : Nat) (hi : i < k) : zs.getD i 0 = ys.getD i 0 := by
  have h1 : (zs.take k)[i]? = zs[i]? := by simp [hi]
  have h2 : (ys.take k)[i]? = ys[i]? := by simp [hi]
  rw [List.getD_eq_getElem?_getD, List.getD_eq_getElem?_getD, ← h1, ← h2, h]
theorem nu_take {zs ys : List Int} {k : Nat} (h : zs.take k = ys.take k) (p : Nat) (hp : p + 4 ≤ k) : nu zs p = nu ys p := by
  unfold nu
  rw [beV4, beV4, take_getD h p (by omega), take_getD h (p + 1) (by omega), take_getD h (p + 2) (by omega), take_getD h (p + 3) (by omega)]
theorem fmt_take {zs ys : List Int} {k p : Nat} (h : zs.take k = ys.take k) (h0 : fmtL (zs.drop p) ≠ 0) (hk : p + fmtL (zs.drop p) ≤ k) : fmtL (ys.drop p) = fmtL (zs.drop p) := by
  have e1 : fmtL ((zs.drop p).take (k - p)) = fmtL (zs.drop p) := fmtL_take _ _ h0 (by omega)
  have e2 : (zs.drop p).take (k - p) = (ys.drop p).take (k - p) := by rw [List.take_drop, List.take_drop, show p + (k - p) = k by omega, h]
  have e3 : fmtL ((ys.drop p).take (k - p)) ≠ 0 := by rw [← e2, e1]; exact h0
  have e4 := fmtL_app _ ((ys.drop p).drop (k - p)) e3
  rw [List.take_append_drop] at e4
  rw [e4, ← e2, e1]
theorem frF_take {zs ys : List Int} {k f : Nat} (h : zs.take k = ys.take k) (h0 : fmtL (zs.drop (f + 8)) ≠ 0) (hk : f + 8 + fmtL (zs.drop (f + 8)) ≤ k) : frF ys f = frF zs f := by
  unfold frF
  rw [fmt_take h h0 hk]
  unfold seg
  rw [List.take_drop, List.take_drop]
  have : ∀ a : List Int, a.take (f + 8 + fmtL (zs.drop (f + 8))) = (a.take k).take (f + 8 + fmtL (zs.drop (f + 8))) := fun a => by rw [List.take_take, Nat.min_eq_left hk]
  rw [this ys, this zs, h]
theorem IsFr.move {zs ys : List Int} {k f t t' : Nat} (h : IsFr zs f t) (e : zs.take k = ys.take k) (hk : f + 8 + (frF zs f).length ≤ k) (ht : f + nu zs f ≤ t') (hy : t' ≤ ys.length) : IsFr ys f t' := by
  have hl := h.len
  rw [frF_len] at hk
  have e1 := frF_take e h.ne hk
  refine ⟨by rw [fmt_take e h.ne hk]; exact h.ne, ?_, ?_, ?_, hy⟩
  · rw [e1, ← nu_take e f (by omega)]; exact h.len
  · rw [e1, ← nu_take e (f + 4) (by omega)]; exact h.pos
  · rw [e1]; omega
/-- the chain from the frame at f on, which ends at t -/
inductive Chn (zs : List Int) : Nat → Nat → Prop
  | base {t : Nat} : IsFr zs 0 t → Chn zs 0 t
  | next {f t : Nat} : f % 4 = 0 → 16 ≤ f → IsFr zs f t → Chn zs (nu zs (f - 4)) (f - 16) → Chn zs f t
theorem Chn.fr {zs : List Int} {f t : Nat} (h : Chn zs f t) : IsFr zs f t := by
  cases h with
  | base h => exact h
  | next _ _ h _ => exact h
theorem Chn.mod {zs : List Int} {f t : Nat} (h : Chn zs f t) : f % 4 = 0 := by
  cases h with
  | base h => rfl
  | next h _ _ _ => exact h
theorem Chn.move {zs ys : List Int} {k f t t' : Nat} (h : Chn zs f t) (e : zs.take k = ys.take k) (hk : f + 8 + (frF zs f).length ≤ k) (ht : f + nu zs f ≤ t') (hy : t' ≤ ys.length) : Chn ys f t' := by
  induction h generalizing t' with
  | base h => exact .base (h.move e hk ht hy)
  | @next f t h1 h2 h3 h4 ih =>
    refine .next h1 h2 (h3.move e hk ht hy) ?_
    have hb := h4.fr.bd
    have hle := h4.fr.len
    have e5 := nu_take e (f - 4) (by omega)
    rw [← e5]
    exact ih (by omega) (by omega) (by omega)
/-- a stack in order -/
structure OkK (s : Ks) : Prop where
  sz : s.bs.length ≤ s.size
  most : s.size ≤ 65536
  mod : s.bs.length % 4 = 0
  okb : OkB s.bs
  cur : s.on = true → Chn s.bs s.fr s.bs.length
  non : s.on = false → s.fr = 0 ∧ (s.bs = [] ∨ 16 ≤ s.bs.length ∧ Chn s.bs (nu s.bs (s.bs.length - 4)) (s.bs.length - 16))
/-- where the current frame's locals end; how many values it has -/
def endK (s : Ks) : Nat := s.fr + nu s.bs s.fr
def cnt (s : Ks) : Nat := (s.bs.length - endK s) / 4
theorem OkK.bd {s : Ks} (ok : OkK s) (h : s.on = true) : s.fr + 12 ≤ s.bs.length ∧ s.fr % 4 = 0 ∧ endK s ≤ s.bs.length ∧ endK s % 4 = 0 ∧ s.bs.length = endK s + 4 * cnt s ∧ s.fr + 12 ≤ endK s := by
  have h1 := (ok.cur h).fr.bd
  have h2 := (ok.cur h).mod
  have h3 := ok.mod
  unfold cnt endK
  omega
/-- each call's answer and what it leaves -/
def lackE (s : Ks) (n : Nat) : Nat := if s.on = false then 102 else if cnt s < n then 101 else 0
def roomE (s : Ks) (n : Nat) : Nat := if s.size < s.bs.length + n then 100 else 0
def roomForE (s : Ks) (n more : Nat) : Nat := if lackE s n = 0 then roomE s (4 * more) else lackE s n
def stubE (s : Ks) : Nat := if s.on = true then (if cnt s < 4 then 101 else if nu s.bs (s.bs.length - 4) = s.fr then 0 else 102) else if s.bs = [] then 5 else 0
def newF (f : List Int) : List Int := putL (posF f + szF f : Nat) 4 ++ putL (posF f : Nat) 4 ++ f ++ zer8 (posF f + szF f - 8 - f.length)
def enterE (s : Ks) (f : List Int) : Nat := if (locR f).2.2 ≠ 0 ∨ s.on = true ∧ stubE s ≠ 0 then 102 else if roomE s (posF f + szF f) ≠ 0 then 100 else 0
def enterS (s : Ks) (f : List Int) : Ks := if enterE s f = 0 then ⟨s.size, s.bs ++ newF f, s.bs.length, true⟩ else s
def leaveE (s : Ks) : Nat := lackE s 0
def leaveS (s : Ks) : Ks := if leaveE s = 0 then ⟨s.size, s.bs.take s.fr, 0, false⟩ else s
def pushE (s : Ks) : Nat := roomForE s 0 1
def pushS (s : Ks) (x : Nat) : Ks := if pushE s = 0 then { s with bs := s.bs ++ putL x 4 } else s
def peekE (s : Ks) (i : Nat) : Nat := lackE s (i + 1)
def peekV (s : Ks) (i : Nat) : Nat := if peekE s i = 0 then nu s.bs (s.bs.length - 4 * (i + 1)) else 0
def popS (s : Ks) : Ks := if peekE s 0 = 0 then { s with bs := s.bs.take (s.bs.length - 4) } else s
def countV (s : Ks) : Nat := if lackE s 0 = 0 then cnt s else 0
/-- the top n values rolled by r, r below n -/
def rollL (zs : List Int) (n r : Nat) : List Int := zs.take (zs.length - 4 * n) ++ (zs.drop (zs.length - 4 * r) ++ (zs.drop (zs.length - 4 * n)).take (4 * n - 4 * r))
def rollR (n k : Nat) : Nat := ((wrap32 (k : Int)) % (n : Int)).toNat
theorem rollR_lt (n k : Nat) (h : 0 < n) : rollR n k < n := by
  unfold rollR
  have h1 := Int.emod_nonneg (wrap32 (k : Int)) (show (n : Int) ≠ 0 by omega)
  have h2 := Int.emod_lt_of_pos (wrap32 (k : Int)) (show (0 : Int) < n by omega)
  generalize wrap32 (k : Int) % (n : Int) = X at *
  omega
def rollE (s : Ks) (n : Nat) : Nat := lackE s n
def rollS (s : Ks) (n k : Nat) : Ks := if rollE s n = 0 ∧ n ≠ 0 then { s with bs := rollL s.bs n (rollR n k) } else s
def dupE (s : Ks) (n : Nat) : Nat := roomForE s n n
def dupS (s : Ks) (n : Nat) : Ks := if dupE s n = 0 then { s with bs := s.bs ++ s.bs.drop (s.bs.length - 4 * n) } else s
def putStub (a b c f : Nat) : List Int := putL a 4 ++ (putL b 4 ++ (putL c 4 ++ putL f 4))
def stubUE (s : Ks) : Nat := roomForE s 0 4
def stubS (s : Ks) (a b c : Nat) : Ks := if stubUE s = 0 then { s with bs := s.bs ++ putStub a b c s.fr } else s
def unstubS (s : Ks) : Ks := if stubE s = 0 then ⟨s.size, s.bs.take (s.bs.length - 16), nu s.bs (s.bs.length - 4), true⟩ else s
def unV (s : Ks) (i : Nat) : Nat := if stubE s = 0 then nu s.bs (s.bs.length - 16 + i) else 0
end Go.Proofs.Ythhkennomnmjkaa
