/- Layer 14: a pair parted anew leaves a tree in order. -/
import Derived.Test.YtilfgbcbodjegaaI14d
import Derived.Test.YtilfgbcbodjegaaQ14e
namespace Go.Proofs.Ytilfgbcbodjegaa
open Go.RowKit
set_option maxHeartbeats 1000000
set_option maxRecDepth 100000
set_option linter.unusedVariables false

theorem arrF_n (m sz key : Int) (d : Wd) : (arrF m sz key d).n = d.n := rfl
theorem iv_arr {s : Ps} (h : Iv s) (x m sz key : Int) (hx : hasW s.L x) (h4 : (ofW s.L x).k = 4) (hm : mtdB m = true) (hs : 0 ≤ sz ∧ sz ≤ 4294967295) (hk : key = 0 ∨ hasW s.L key) : Iv (arrS s x m sz key) := by
  have hh : ∀ y, hasW (updW s.L x (arrF m sz key)) y ↔ hasW s.L y := fun y => upd_has x y _ (arrF_n m sz key)
  have ho : ∀ y, hasW s.L y → ofW (updW s.L x (arrF m sz key)) y = if y = x then arrF m sz key (ofW s.L y) else ofW s.L y := fun y hy => upd_of x y _ (arrF_n m sz key) hy
  have hkp : ∀ y, hasW s.L y → (ofW (updW s.L x (arrF m sz key)) y).k = (ofW s.L y).k ∧ (ofW (updW s.L x (arrF m sz key)) y).p = (ofW s.L y).p ∧ (ofW (updW s.L x (arrF m sz key)) y).a = (ofW s.L y).a ∧ (ofW (updW s.L x (arrF m sz key)) y).b = (ofW s.L y).b := fun y hy => by
    rw [ho y hy]
    split <;> exact ⟨rfl, rfl, rfl, rfl⟩
  refine ⟨⟨upd_ok h.toOkP x _ (arrF_n m sz key), h.l0, h.l1, fun d hd => h.top' ((hh d.n).1 ⟨d, hd, rfl⟩)⟩, by show (updW s.L x _).length ≤ 64; rw [upd_len]; exact h.f63, h.scr, ?_, ?_, ?_, ?_, ?_, ?_, by show s.root = 0 ↔ (updW s.L x _).length = 0; rw [upd_len]; exact h.rt0, ?_, fun z => (hh _).2 (h.rh z), ?_⟩
  · intro y hy
    have hy2 := (hh y).1 hy
    show 1 ≤ (ofW (updW s.L x (arrF m sz key)) y).k ∧ (ofW (updW s.L x (arrF m sz key)) y).k ≤ 4
    rw [(hkp y hy2).1]; exact h.kd y hy2
  · intro y hy h44
    have hy2 := (hh y).1 hy
    change (ofW (updW s.L x (arrF m sz key)) y).k ≠ 4 at h44
    show (ofW (updW s.L x (arrF m sz key)) y).a = 0 ∧ (ofW (updW s.L x (arrF m sz key)) y).b = 0 ∧ (ofW (updW s.L x (arrF m sz key)) y).m = 0 ∧ (ofW (updW s.L x (arrF m sz key)) y).s = 0 ∧ (ofW (updW s.L x (arrF m sz key)) y).key = 0
    rw [(hkp y hy2).1] at h44
    have : y ≠ x := fun e => h44 (by rw [e]; exact h4)
    rw [ho y hy2, if_neg this]
    exact h.np y hy2 h44
  · intro y hy h44
    have hy2 := (hh y).1 hy
    change (ofW (updW s.L x (arrF m sz key)) y).k = 4 at h44
    show PairW (ofW (updW s.L x (arrF m sz key)) y)
    rw [(hkp y hy2).1] at h44
    rw [ho y hy2]
    split
    · exact ⟨hm, hs.1, hs.2⟩
    · exact h.pw y hy2 h44
  · intro y hy
    have hy2 := (hh y).1 hy
    show (ofW (updW s.L x (arrF m sz key)) y).key = 0 ∨ hasW (updW s.L x (arrF m sz key)) (ofW (updW s.L x (arrF m sz key)) y).key
    rw [ho y hy2]
    split
    · show (if key = 0 then (ofW s.L y).key else key) = 0 ∨ hasW _ (if key = 0 then (ofW s.L y).key else key)
      by_cases e : key = 0
      · rw [if_pos e]; exact (h.ky y hy2).imp id (fun z => (hh _).2 z)
      · rw [if_neg e]; exact .inr ((hh _).2 (hk.resolve_left e))
    · exact (h.ky y hy2).imp id (fun z => (hh _).2 z)
  · intro y hy h0
    have hy2 := (hh y).1 hy
    change (ofW (updW s.L x (arrF m sz key)) y).p ≠ 0 at h0
    show hasW (updW s.L x (arrF m sz key)) (ofW (updW s.L x (arrF m sz key)) y).p ∧ (ofW (updW s.L x (arrF m sz key)) (ofW (updW s.L x (arrF m sz key)) y).p).k = 4 ∧ ((ofW (updW s.L x (arrF m sz key)) (ofW (updW s.L x (arrF m sz key)) y).p).a = y ∨ (ofW (updW s.L x (arrF m sz key)) (ofW (updW s.L x (arrF m sz key)) y).p).b = y)
    rw [(hkp y hy2).2.1] at h0 ⊢
    obtain ⟨p1, p2, p3⟩ := h.par y hy2 h0
    obtain ⟨q1, q2, q3, q4⟩ := hkp _ p1
    rw [q1, q3, q4]
    exact ⟨(hh _).2 p1, p2, p3⟩
  · intro y hy h44
    have hy2 := (hh y).1 hy
    change (ofW (updW s.L x (arrF m sz key)) y).k = 4 at h44
    show hasW (updW s.L x (arrF m sz key)) (ofW (updW s.L x (arrF m sz key)) y).a ∧ hasW (updW s.L x (arrF m sz key)) (ofW (updW s.L x (arrF m sz key)) y).b ∧ (ofW (updW s.L x (arrF m sz key)) y).a ≠ (ofW (updW s.L x (arrF m sz key)) y).b ∧ (ofW (updW s.L x (arrF m sz key)) (ofW (updW s.L x (arrF m sz key)) y).a).p = y ∧ (ofW (updW s.L x (arrF m sz key)) (ofW (updW s.L x (arrF m sz key)) y).b).p = y
    obtain ⟨q1, q2, q3, q4⟩ := hkp y hy2
    rw [q1] at h44
    rw [q3, q4]
    obtain ⟨k1, k2, k3, k4, k5⟩ := h.kid y hy2 h44
    rw [(hkp _ k1).2.1, (hkp _ k2).2.1]
    exact ⟨(hh _).2 k1, (hh _).2 k2, k3, k4, k5⟩
  · intro y hy
    have hy2 := (hh y).1 hy
    show (ofW (updW s.L x (arrF m sz key)) y).p = 0 ↔ y = s.root
    rw [(hkp y hy2).2.1]; exact h.rt y hy2
  · obtain ⟨r, hr⟩ := h.rk
    refine ⟨r, fun y hy h0 => ?_⟩
    have hy2 := (hh y).1 hy
    change (ofW (updW s.L x (arrF m sz key)) y).p ≠ 0 at h0
    show r (ofW (updW s.L x (arrF m sz key)) y).p < r y
    rw [(hkp y hy2).2.1] at h0 ⊢
    exact hr y hy2 h0
end Go.Proofs.Ytilfgbcbodjegaa
