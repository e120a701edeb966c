/- Layer 18: AccelClasses: what the functions come to over the law's bytes (pure). -/
import Derived.Test.YtpgppdkbkkljnaaA18A
namespace Go.Proofs.Ytpgppdkbkkljnaa
open Go.RowKit
set_option maxHeartbeats 1000000
set_option maxRecDepth 100000
set_option linter.unusedVariables false

/-- the law's params -/
def psC : List Nat := [0, 256, 2000, 2004, 2008, 2012, 260, 7, 300]
/-- what the law's bytes hold -/
structure ClsF (BS : List Int) (n : Nat) (q : Nat → Nat) : Prop where
  ln : BS.length = 2048
  cb : ∀ i, i < 8 → rdN BS (512 + 64 * i) 1 = 112
  cw : ∀ i, i < 8 → rdN BS (512 + 64 * i + 20) 4 = 2000
  ob : rdN BS 1024 1 = 112
  o4 : rdN BS 1040 4 = 1100
  oz : rdN BS 1044 4 = 0
  t4 : rdN BS 1100 4 = 1
  kk : seg BS 1104 2 = putL 2 2
  h2 : rdN BS 1106 2 = n
  rw : rdN BS 1108 4 = 1200
  f0 : rdN BS 1113 1 = 0
  sf : rdN BS 260 4 = 0
  le : n ≤ 60
  qs : ∀ i, i < n → q i < 8 ∧ rdN BS (1200 + 4 * i) 4 = 512 + 64 * q i
def jC (BS : List Int) : Jb := ⟨BS, 256, psC, 7⟩
theorem rdA_in {BS : List Int} {a n : Nat} (h : a + n ≤ BS.length) : rdA BS a n = just (rdN BS a n) := if_pos h
theorem just_go (x : Nat) (k : Nat → An) : (just x).go k = k x := go_good ⟨rfl, rfl⟩
theorem one_go (b : Bool) (k : Nat → An) : (one18 b).go k = k (if b then 1 else 0) := go_good ⟨rfl, rfl⟩
theorem ic_C {BS : List Int} {n : Nat} {q : Nat → Nat} (h : ClsF BS n q) (i : Nat) (hi : i < 8) : icA (jC BS) (512 + 64 * i) = one18 true := by
  have e : wr32 (512 + 64 * i + 13 + 7) = 512 + 64 * i + 20 := by unfold wr32; omega
  show (rdA BS (wr32 (512 + 64 * i + 13 + 7)) 4).go _ = _
  rw [e, rdA_in (by rw [h.ln]; omega), just_go, h.cw i hi]
  rfl
theorem ic_O {BS : List Int} {n : Nat} {q : Nat → Nat} (h : ClsF BS n q) : icA (jC BS) 1024 = one18 false := by
  show (rdA BS (wr32 (1024 + 13 + 7)) 4).go _ = _
  rw [show wr32 (1024 + 13 + 7) = 1044 from rfl, rdA_in (by rw [h.ln]; omega), just_go, h.oz]
  rfl
theorem reg_of {BS : List Int} {n : Nat} {q : Nat → Nat} (h : ClsF BS n q) (a : Nat) (h1 : 256 ≤ a) (h2 : a < 2048) (hb : rdN BS a 1 = 112) : regJ (jC BS) a = 1 := by
  unfold regJ
  show (if a < 36 ∨ BS.length ≤ a then 0 else _) = _
  rw [if_neg (by rw [h.ln]; omega)]
  show (if 224 ≤ rdN BS a 1 then 3 else if 192 ≤ rdN BS a 1 then 2 else if 112 ≤ rdN BS a 1 ∧ rdN BS a 1 < 128 ∧ 256 ≤ a then 1 else 0) = 1
  rw [hb, if_neg (by decide), if_neg (by decide), if_pos ⟨by decide, by decide, h1⟩]
theorem tab_C {BS : List Int} {n : Nat} {q : Nat → Nat} (h : ClsF BS n q) : tabA (jC BS) 1024 2 = just 1104 := by
  unfold tabA
  rw [if_neg (by rw [reg_of h 1024 (by decide) (by decide) h.ob]; decide)]
  show (rdA BS (wr32 (1024 + 4 * (3 + 7 / 4))) 4).go _ = _
  rw [show wr32 (1024 + 4 * (3 + 7 / 4)) = 1040 from rfl, rdA_in (by rw [h.ln]; omega), just_go, h.o4]
  show (if 1100 = 0 then just 0 else (rdA BS 1100 4).go fun n => binJ (jC BS) 1100 2 n) = _
  rw [if_neg (by decide), rdA_in (by rw [h.ln]; omega), just_go, h.t4]
  show (⟨(binV BS (srJ 1100 2 1)).1, 0, (binV BS (srJ 1100 2 1)).2⟩ : An) = _
  have e : binV BS (srJ 1100 2 1) = (1104, 0) := by
    unfold binV
    have hky : keyE (srJ 1100 2 1) BS.length = 0 := by rw [h.ln]; rfl
    rw [if_neg (by rw [hky]; decide)]
    have hk : keyL (srJ 1100 2 1) BS = putL 2 2 := rfl
    rw [hk]
    show tellR _ (binF BS (srJ 1100 2 1) (putL 2 2) 1 0 1) = _
    unfold binF
    rw [if_pos (by decide)]
    have h1 : kyE (srJ 1100 2 1) BS.length (spA (srJ 1100 2 1) (0 + (1 - 0) / 2)) = 0 := by rw [h.ln]; rfl
    rw [if_neg (by rw [h1]; decide)]
    have h2 : kyL (srJ 1100 2 1) BS (spA (srJ 1100 2 1) (0 + (1 - 0) / 2)) = putL 2 2 := h.kk
    rw [if_pos h2]
    rfl
  rw [e]
  rfl
/-- is k among the first n? -/
def amL (q : Nat → Nat) (k n : Nat) : Bool := (List.range n).any fun j => decide (q j = k)
theorem amL_succ (q : Nat → Nat) (k n : Nat) : amL q k (n + 1) = (amL q k n || decide (q n = k)) := by
  unfold amL
  rw [List.range_succ, List.any_append]
  simp
theorem nam_C {BS : List Int} {n : Nat} {q : Nat → Nat} (h : ClsF BS n q) (k : Nat) (hk : k < 8) : ∀ f i, i + f = n → namF (jC BS) 1200 (512 + 64 * k) f i = one18 ((List.range' i f).any fun j => decide (q j = k))
  | 0, i, hi => rfl
  | f + 1, i, hi => by
    obtain ⟨q1, q2⟩ := h.qs i (by omega)
    have hle := h.le
    have e : wr32 (1200 + 4 * i) = 1200 + 4 * i := by unfold wr32; omega
    show (rdA BS (wr32 (1200 + 4 * i)) 4).go (fun x => if x = 512 + 64 * k then just 1 else namF (jC BS) 1200 (512 + 64 * k) f (i + 1)) = _
    rw [e, rdA_in (by rw [h.ln]; omega), just_go, q2, List.range'_succ, List.any_cons]
    by_cases hq : q i = k
    · rw [if_pos (by omega), decide_eq_true hq]
      rfl
    · rw [if_neg (by omega), nam_C h k hk f (i + 1) (by omega), decide_eq_false hq, Bool.false_or]
theorem sho_C {BS : List Int} {n : Nat} {q : Nat → Nat} (h : ClsF BS n q) : shoA (jC BS) 1024 2 false = just 1104 := by
  unfold shoA
  rw [tab_C h, just_go, if_neg (by decide), if_neg (by decide)]
  unfold hidA
  rw [ic_O h, one_go]
  show ((one18 (decide (0 = 1) && !clsP (jC BS) 2)).go _) = _
  rw [show (decide ((0 : Nat) = 1) && !clsP (jC BS) 2) = false from rfl, one_go]
  show (if (0 : Nat) = 1 then just 0 else (barA (jC BS) 1024 1104).go fun x => if x = 1 then just 0 else just 1104) = _
  rw [if_neg (by decide)]
  have hb : barA (jC BS) 1024 1104 = one18 false := by
    unfold barA
    show (rdA BS 260 4).go _ = _
    rw [rdA_in (by rw [h.ln]; omega), just_go, h.sf, if_neg (by decide)]
    show (rdA BS (wr32 (1104 + 9)) 1).go _ = _
    rw [show wr32 (1104 + 9) = 1113 from rfl, rdA_in (by rw [h.ln]; omega), just_go, h.f0]
    rfl
  rw [hb, one_go]
  rfl
theorem nm_C {BS : List Int} {n : Nat} {q : Nat → Nat} (h : ClsF BS n q) (k : Nat) (hk : k < 8) : namA (jC BS) 1024 (512 + 64 * k) = one18 (amL q k n) := by
  unfold namA
  rw [sho_C h, just_go, if_neg (by decide)]
  show (rdA BS (wr32 (1104 + 4)) 4).go _ = _
  rw [show wr32 (1104 + 4) = 1108 from rfl, rdA_in (by rw [h.ln]; omega), just_go, h.rw, if_neg (by decide)]
  show (rdA BS (wr32 (1104 + 2)) 2).go _ = _
  rw [show wr32 (1104 + 2) = 1106 from rfl, rdA_in (by rw [h.ln]; omega), just_go, h.h2, nam_C h k hk n 0 (by omega)]
  unfold amL
  rw [List.range_eq_range']
theorem do5 (BS : List Int) (a b : Nat) : doA BS 256 psC 5 [a, b] = ofA (jC BS) a b := rfl
theorem of_obj {BS : List Int} {a b : Nat} (h : regJ (jC BS) a = 1) : ofA (jC BS) a b = objA (jC BS) a b := by
  unfold ofA
  rw [if_neg (by rw [h]; decide), if_neg (by rw [h]; decide), if_pos h]
/-- the law's five answers -/
theorem cls_five {BS : List Int} {n : Nat} {q : Nat → Nat} (h : ClsF BS n q) (k : Nat) (hk : k < 8) :
    doA BS 256 psC 5 [1024, 512 + 64 * k] = one18 (amL q k n) ∧ doA BS 256 psC 5 [512 + 64 * k, 2000] = one18 true ∧ doA BS 256 psC 5 [1024, 2004] = one18 true ∧ doA BS 256 psC 5 [512 + 64 * k, 2004] = one18 false ∧ doA BS 256 psC 5 [1024, 1024] = ⟨0, 2, 0⟩ := by
  have rO := reg_of h 1024 (by decide) (by decide) h.ob
  have rC := reg_of h (512 + 64 * k) (by omega) (by omega) (h.cb k hk)
  simp only [do5]
  rw [of_obj rO, of_obj rC, of_obj rO, of_obj rC, of_obj rO]
  have p2 : (jC BS).p 2 = 2000 := rfl
  have p3 : (jC BS).p 3 = 2004 := rfl
  have p4 : (jC BS).p 4 = 2008 := rfl
  have p5 : (jC BS).p 5 = 2012 := rfl
  have iC : iclA (jC BS) (512 + 64 * k) = one18 true := by
    unfold iclA
    rw [ic_C h k hk, one_go]
    rfl
  have iO : iclA (jC BS) 1024 = one18 false := by
    unfold iclA
    rw [ic_O h, one_go]
    rfl
  refine ⟨?_, ?_, ?_, ?_, ?_⟩
  · unfold objA
    rw [p2, p3, p4, p5, if_neg (by omega), if_neg (by omega), if_neg (by omega), ic_C h k hk, one_go]
    exact nm_C h k hk
  · unfold objA
    rw [p2, if_pos rfl]; exact iC
  · unfold objA
    rw [p2, p3, if_neg (by decide), if_pos rfl, iO, one_go]
    rfl
  · unfold objA
    rw [p2, p3, if_neg (by decide), if_pos rfl, iC, one_go]
    rfl
  · unfold objA
    rw [p2, p3, p4, p5, if_neg (by decide), if_neg (by decide), if_neg (by decide), ic_O h, one_go]
    rfl
end Go.Proofs.Ytpgppdkbkkljnaa
