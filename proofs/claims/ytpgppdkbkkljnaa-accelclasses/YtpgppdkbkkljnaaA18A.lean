/- Layer 18 (accel): what the functions come to, as plain functions of a memory's bytes. Layer 18: words that came in. Layer 18: what a function looks into, as it lies in memory; the small functions. Layer 18: a memory and params that are only read; read, region. Layer 18: region, isClassProp. -/
import Derived.Test.YtpgppdkbkkljnaaF13p
import Derived.Test.YtpgppdkbkkljnaaH7a
import Derived.Test.YtpgppdkbkkljnaaF13A
import Derived.Deep.RegionHeld3
import Derived.Deep.Cut
import Derived.Deep.CutRange
import Derived.BigQuiet
import Derived.Handy
namespace Go.Proofs.Ytpgppdkbkkljnaa
open Go.RowKit
set_option maxHeartbeats 1000000
set_option maxRecDepth 100000
set_option linter.unusedVariables false

/-- what a function looks into: bytes, where those begin that may change, nine params, how many bytes attributes have -/
structure Jb where
  bs : List Int
  ram : Nat
  ps : List Nat
  att : Nat
/-- what a function comes to: a number, a slip, an error -/
structure An where
  x : Nat
  s : Int
  e : Int
structure Jb.ok (j : Jb) : Prop where
  okb : OkB j.bs
  le : j.bs.length ≤ 1048576
  ps : j.ps.length = 9
  bd : ∀ x ∈ j.ps, x < 4294967296
  att : j.att < 4294967296
  ram : j.ram < 4294967296
def Jb.p (j : Jb) (i : Nat) : Nat := j.ps.getD i 0
theorem Jb.ok.p {j : Jb} (h : j.ok) (i : Nat) : j.p i < 4294967296 := by
  unfold Jb.p
  rw [List.getD_eq_getElem?_getD]
  cases he : j.ps[i]? with
  | none => decide
  | some x => exact h.bd x (List.mem_of_getElem? he)
def An.ok (r : An) : Prop := r.s = 0 ∧ r.e = 0
/-- what goes on with a number, if there is neither slip nor error -/
def An.go (r : An) (k : Nat → An) : An := if r.s = 0 ∧ r.e = 0 then k r.x else ⟨0, r.s, r.e⟩
def just (x : Nat) : An := ⟨x, 0, 0⟩
def one18 (b : Bool) : An := ⟨if b then 1 else 0, 0, 0⟩
def rdN (bs : List Int) (a n : Nat) : Nat := (beV bs a n).toNat
def rdA (bs : List Int) (a n : Nat) : An := if a + n ≤ bs.length then ⟨rdN bs a n, 0, 0⟩ else ⟨0, 0, 90⟩
def regJ (j : Jb) (a : Nat) : Nat :=
  if a < 36 ∨ j.bs.length ≤ a then 0
  else if 224 ≤ rdN j.bs a 1 then 3
  else if 192 ≤ rdN j.bs a 1 then 2
  else if 112 ≤ rdN j.bs a 1 ∧ rdN j.bs a 1 < 128 ∧ j.ram ≤ a then 1 else 0
def icA (j : Jb) (a : Nat) : An := (rdA j.bs (wr32 (a + 13 + j.att)) 4).go fun x => one18 (decide (x = j.p 2))
def clsP (j : Jb) (b : Nat) : Bool := decide (j.p 1 ≤ b) && decide (b < wr32 (j.p 1 + 8))
def srJ (t b n : Nat) : Sr := ⟨b, 2, wr32 (t + 4), 10, n, 0, 0, 0⟩
def binJ (j : Jb) (t b n : Nat) : An := ⟨(binV j.bs (srJ t b n)).1, 0, (binV j.bs (srJ t b n)).2⟩
def tabA (j : Jb) (a b : Nat) : An :=
  if regJ j a ≠ 1 then ⟨0, 1, 0⟩
  else (rdA j.bs (wr32 (a + 4 * (3 + j.att / 4))) 4).go fun t => if t = 0 then just 0 else (rdA j.bs t 4).go fun n => binJ j t b n
/-- is the property at p barred? 1, if so -/
def barA (j : Jb) (a p : Nat) : An := (rdA j.bs (j.p 6) 4).go fun s => if s = a then just 0 else (rdA j.bs (wr32 (p + 9)) 1).go fun f => one18 (decide (f % 2 ≠ 0))
def hidA (j : Jb) (a b : Nat) : An := (icA j a).go fun c => one18 (decide (c = 1) && !clsP j b)
def shoA (j : Jb) (a b : Nat) (own : Bool) : An :=
  (tabA j a b).go fun p => if p = 0 then just 0 else
    (if own then just 0 else hidA j a b).go fun h => if h = 1 then just 0 else
      (barA j a p).go fun x => if x = 1 then just 0 else just p
def namF (j : Jb) (row b : Nat) : Nat → Nat → An
  | 0, _ => just 0
  | f + 1, i => (rdA j.bs (wr32 (row + 4 * i)) 4).go fun x => if x = b then just 1 else namF j row b f (i + 1)
def namA (j : Jb) (a b : Nat) : An :=
  (shoA j a 2 false).go fun p => if p = 0 then just 0 else
    (rdA j.bs (wr32 (p + 4)) 4).go fun row => if row = 0 then just 0 else
      (rdA j.bs (wr32 (p + 2)) 2).go fun n => namF j row b n 0
def iclA (j : Jb) (a : Nat) : An := (icA j a).go fun c => one18 (decide (c = 1) || (decide (a = j.p 2) || (decide (a = j.p 5) || (decide (a = j.p 4) || decide (a = j.p 3)))))
def objA (j : Jb) (a b : Nat) : An :=
  if b = j.p 2 then iclA j a
  else if b = j.p 3 then (iclA j a).go fun c => one18 (decide (c = 0))
  else if b = j.p 5 ∨ b = j.p 4 then just 0
  else (icA j b).go fun c => if c = 0 then ⟨0, 2, 0⟩ else namA j a b
def ofA (j : Jb) (a b : Nat) : An :=
  if regJ j a = 3 then one18 (decide (b = j.p 5))
  else if regJ j a = 2 then one18 (decide (b = j.p 4))
  else if regJ j a = 1 then objA j a b
  else just 0
def proA (j : Jb) (a b : Nat) : An :=
  if b < 65536 then shoA j a b false
  else (rdA j.bs (wr32 (j.p 0 + 4 * (b % 65536))) 4).go fun c => (ofA j a c).go fun x => if x = 0 then just 0 else shoA j c (b / 65536) (decide (c ≠ 0))
def adrA (j : Jb) (a b : Nat) : An := (proA j a b).go fun p => if p = 0 then just 0 else rdA j.bs (wr32 (p + 4)) 4
def lenA (j : Jb) (a b : Nat) : An := (proA j a b).go fun p => if p = 0 then just 0 else (rdA j.bs (wr32 (p + 2)) 2).go fun n => just (4 * n)
def valA (j : Jb) (a b : Nat) : An :=
  (adrA j a b).go fun x => if x ≠ 0 then rdA j.bs x 4
    else if 0 < b ∧ b < j.p 1 then rdA j.bs (wr32 (j.p 8 + 4 * b)) 4 else ⟨0, 3, 0⟩
def ohaA (j : Jb) (a b : Nat) : An :=
  (if clsP j b then icA j a else just 0).go fun c => if c = 1 then just 1 else (adrA j a b).go fun x => one18 (decide (x ≠ 0))
def hasA (j : Jb) (a b : Nat) : An :=
  if regJ j a = 3 then one18 (decide (b = wr32 (j.p 1 + 6)) || decide (b = wr32 (j.p 1 + 7)))
  else if regJ j a = 2 then one18 (decide (b = wr32 (j.p 1 + 5)))
  else if regJ j a = 1 then ohaA j a b
  else just 0
def doK (j : Jb) (k a b : Nat) : An :=
  if k = 1 then just (regJ j a) else if k = 2 then tabA j a b else if k = 3 then adrA j a b else if k = 4 then lenA j a b
  else if k = 5 then ofA j a b else if k = 6 then valA j a b else if k = 7 then hasA j a b else just 0
/-- the whole: function n of params and arguments -/
def doA (bs : List Int) (ram : Nat) (ps : List Nat) (n : Nat) (args : List Nat) : An :=
  if ps.length ≠ 9 ∨ n < 1 ∨ 13 < n then ⟨0, 0, 1⟩
  else doK ⟨bs, ram, ps, if 8 ≤ n then ps.getD 7 0 else 7⟩ (if 8 ≤ n then n - 6 else n) (args.getD 0 0) (args.getD 1 0)

/-- a number below 2^32 which is 0 beside a slip or an error; a slip from 0 to 3 -/
structure An.fit (r : An) : Prop where
  lt : r.x < 4294967296
  z : ¬ (r.s = 0 ∧ r.e = 0) → r.x = 0
  s0 : 0 ≤ r.s
  s3 : r.s ≤ 3
  ee : r.e = 0 ∨ r.e = 90
  se : r.s = 0 ∨ r.e = 0
theorem just_fit {x : Nat} (h : x < 4294967296) : (just x).fit := ⟨h, fun k => absurd ⟨rfl, rfl⟩ k, Int.le_refl 0, (by show (0 : Int) ≤ 3; decide), .inl rfl, .inl rfl⟩
theorem one_fit (b : Bool) : (one18 b).fit := ⟨by cases b <;> decide, fun k => absurd ⟨rfl, rfl⟩ k, Int.le_refl 0, (by show (0 : Int) ≤ 3; decide), .inl rfl, .inl rfl⟩
theorem go_fit {r : An} {k : Nat → An} (h : r.fit) (hk : (r.s = 0 ∧ r.e = 0) → (k r.x).fit) : (r.go k).fit := by
  unfold An.go
  by_cases h0 : r.s = 0 ∧ r.e = 0
  · rw [if_pos h0]; exact hk h0
  · rw [if_neg h0]; exact ⟨(by show 0 < 4294967296; decide), fun _ => rfl, h.s0, h.s3, h.ee, h.se⟩
theorem go_good {r : An} {k : Nat → An} (h : r.s = 0 ∧ r.e = 0) : r.go k = k r.x := if_pos h
theorem go_bad {r : An} {k : Nat → An} (h : ¬ (r.s = 0 ∧ r.e = 0)) : r.go k = ⟨0, r.s, r.e⟩ := if_neg h
theorem getD_ok {bs : List Int} (h : OkB bs) (a : Nat) : 0 ≤ bs.getD a 0 ∧ bs.getD a 0 ≤ 255 := by
  rw [List.getD_eq_getElem?_getD]
  cases he : bs[a]? with
  | none => decide
  | some x => exact h x (List.mem_of_getElem? he)
theorem be_bds {bs : List Int} (h : OkB bs) (a : Nat) (n : Nat) (hn : n = 1 ∨ n = 2 ∨ n = 4) : 0 ≤ beV bs a n ∧ beV bs a n ≤ 4294967295 ∧ (n = 1 → beV bs a n ≤ 255) ∧ (n = 2 → beV bs a n ≤ 65535) := by
  have h0 := getD_ok h a
  have h1 := getD_ok h (a + 1)
  rcases hn with rfl | rfl | rfl
  · have e : beV bs a (1 : Nat) = bs.getD a 0 := by unfold beV; rw [if_pos (by decide)]
    rw [e]; omega
  · have e : beV bs a (2 : Nat) = 256 * bs.getD a 0 + bs.getD (a + 1) 0 := by unfold beV; rw [if_neg (by decide), if_pos (by decide)]
    rw [e]; omega
  · have := beV_bd bs a h
    exact ⟨this.1, this.2, fun e => by omega, fun e => by omega⟩
theorem rdN_cast {bs : List Int} (h : OkB bs) (a : Nat) (n : Nat) (hn : n = 1 ∨ n = 2 ∨ n = 4) : beV bs a n = (rdN bs a n : Int) ∧ rdN bs a n < 4294967296 ∧ (n = 1 → rdN bs a n < 256) ∧ (n = 2 → rdN bs a n < 65536) := by
  have := be_bds h a n hn
  unfold rdN
  omega
theorem rd_fit {bs : List Int} (h : OkB bs) (a n : Nat) (hn : n = 1 ∨ n = 2 ∨ n = 4) : (rdA bs a n).fit := by
  unfold rdA
  by_cases h1 : a + n ≤ bs.length
  · rw [if_pos h1]; exact just_fit (rdN_cast h a n hn).2.1
  · rw [if_neg h1]; exact ⟨by decide, fun _ => rfl, by decide, by decide, .inr rfl, .inl rfl⟩
theorem reg_le (j : Jb) (a : Nat) : regJ j a ≤ 3 := by unfold regJ; repeat' split
                                                       all_goals omega
theorem ic_fit {j : Jb} (h : j.ok) (a : Nat) : (icA j a).fit := go_fit (rd_fit h.okb _ _ (.inr (.inr rfl))) fun _ => one_fit _
theorem binF_fit (bs : List Int) (s : Sr) (key : List Int) : ∀ f lo hi, (∀ e, binF bs s key f lo hi = .bad e → e = 90) ∧ (∀ i a, binF bs s key f lo hi = .at_ i a → a < 4294967296)
  | 0, _, _ => ⟨fun e h => (by cases h), fun i a h => (by cases h)⟩
  | f + 1, lo, hi => by
    simp only [binF]
    split
    · split
      · exact ⟨fun e h => by cases h; rfl, fun i a h => by cases h⟩
      · split
        · exact ⟨fun e h => (by cases h), fun i a h => by cases h; exact wr32_lt _⟩
        · split
          · exact binF_fit bs s key f _ _
          · exact binF_fit bs s key f _ _
    · exact ⟨fun e h => (by cases h), fun i a h => (by cases h)⟩
theorem err_fit (e : Int) (h : e = 0 ∨ e = 90) : (⟨0, 0, e⟩ : An).fit := ⟨(by show 0 < 4294967296; decide), fun _ => rfl, Int.le_refl 0, (by show (0 : Int) ≤ 3; decide), h, .inl rfl⟩
theorem bin_fit (j : Jb) (t b n : Nat) : (binJ j t b n).fit := by
  have hk : keyE (srJ t b n) j.bs.length = 0 := by
    have h1 : optB (srJ t b n).opt 1 = false := by simp [srJ, optB]
    have h2 : mayK (srJ t b n) = true := by unfold mayK; rw [h1]; rfl
    unfold keyE
    rw [h2, h1]; rfl
  have h4 : optB (srJ t b n).opt 4 = false := by simp [srJ, optB]
  have hb := binF_fit j.bs (srJ t b n) (keyL (srJ t b n) j.bs) (srJ t b n).cnt 0 (srJ t b n).cnt
  unfold binJ binV
  rw [hk, if_neg (by decide)]
  cases hr : binF j.bs (srJ t b n) (keyL (srJ t b n) j.bs) (srJ t b n).cnt 0 (srJ t b n).cnt with
  | bad e =>
    have := hb.1 e hr
    subst this
    exact err_fit 90 (.inr rfl)
  | no =>
    simp only [tellR, h4]
    exact just_fit (by decide)
  | at_ i a =>
    simp only [tellR, h4]
    exact just_fit (hb.2 i a hr)
theorem slip_fit (s : Int) (h0 : 0 ≤ s) (h3 : s ≤ 3) : (⟨0, s, 0⟩ : An).fit := ⟨(by show 0 < 4294967296; decide), fun _ => rfl, h0, h3, .inl rfl, .inr rfl⟩
theorem ite_fit {c : Prop} [Decidable c] {a b : An} (h1 : a.fit) (h2 : b.fit) : (if c then a else b).fit := by
  split
  · exact h1
  · exact h2
theorem j0_fit : (just 0).fit := just_fit (by decide)
theorem j1_fit : (just 1).fit := just_fit (by decide)
theorem rd4_fit {j : Jb} (h : j.ok) (a : Nat) : (rdA j.bs a 4).fit := rd_fit h.okb _ _ (.inr (.inr rfl))
theorem tab_fit {j : Jb} (h : j.ok) (a b : Nat) : (tabA j a b).fit :=
  ite_fit (slip_fit 1 (by decide) (by decide)) (go_fit (rd4_fit h _) fun _ => ite_fit j0_fit (go_fit (rd4_fit h _) fun _ => bin_fit _ _ _ _))
theorem bar_fit {j : Jb} (h : j.ok) (a p : Nat) : (barA j a p).fit :=
  go_fit (rd4_fit h _) fun _ => ite_fit j0_fit (go_fit (rd_fit h.okb _ _ (.inl rfl)) fun _ => one_fit _)
theorem hid_fit {j : Jb} (h : j.ok) (a b : Nat) : (hidA j a b).fit := go_fit (ic_fit h a) fun _ => one_fit _
theorem sho_fit {j : Jb} (h : j.ok) (a b : Nat) (own : Bool) : (shoA j a b own).fit :=
  go_fit (tab_fit h a b) fun _ => ite_fit j0_fit (go_fit (ite_fit j0_fit (hid_fit h a b)) fun _ => ite_fit j0_fit (go_fit (bar_fit h _ _) fun _ => ite_fit j0_fit (just_fit (tab_fit h a b).lt)))
theorem namF_fit {j : Jb} (h : j.ok) (row b : Nat) : ∀ f i, (namF j row b f i).fit
  | 0, _ => j0_fit
  | f + 1, i => go_fit (rd4_fit h _) fun _ => ite_fit j1_fit (namF_fit h row b f (i + 1))
theorem nam_fit {j : Jb} (h : j.ok) (a b : Nat) : (namA j a b).fit :=
  go_fit (sho_fit h a 2 false) fun _ => ite_fit j0_fit (go_fit (rd4_fit h _) fun _ => ite_fit j0_fit (go_fit (rd_fit h.okb _ _ (.inr (.inl rfl))) fun _ => namF_fit h _ _ _ _))
theorem icl_fit {j : Jb} (h : j.ok) (a : Nat) : (iclA j a).fit := go_fit (ic_fit h a) fun _ => one_fit _
theorem obj_fit {j : Jb} (h : j.ok) (a b : Nat) : (objA j a b).fit :=
  ite_fit (icl_fit h a) (ite_fit (go_fit (icl_fit h a) fun _ => one_fit _) (ite_fit j0_fit (go_fit (ic_fit h b) fun _ => ite_fit (slip_fit 2 (by decide) (by decide)) (nam_fit h a b))))
theorem of_fit {j : Jb} (h : j.ok) (a b : Nat) : (ofA j a b).fit :=
  ite_fit (one_fit _) (ite_fit (one_fit _) (ite_fit (obj_fit h a b) j0_fit))
theorem pro_fit {j : Jb} (h : j.ok) (a b : Nat) : (proA j a b).fit :=
  ite_fit (sho_fit h _ _ _) (go_fit (rd4_fit h _) fun _ => go_fit (of_fit h _ _) fun _ => ite_fit j0_fit (sho_fit h _ _ _))
theorem adr_fit {j : Jb} (h : j.ok) (a b : Nat) : (adrA j a b).fit :=
  go_fit (pro_fit h _ _) fun _ => ite_fit j0_fit (rd4_fit h _)
theorem rd2_lt {bs : List Int} (h : OkB bs) (a : Nat) : (rdA bs a 2).x < 65536 := by
  unfold rdA
  split
  · exact (rdN_cast h a 2 (.inr (.inl rfl))).2.2.2 rfl
  · decide
theorem len_fit {j : Jb} (h : j.ok) (a b : Nat) : (lenA j a b).fit :=
  go_fit (pro_fit h _ _) fun _ => ite_fit j0_fit (go_fit (rd_fit h.okb _ _ (.inr (.inl rfl))) fun _ => just_fit (by
    have := rd2_lt h.okb (wr32 ((proA j a b).x + 2))
    omega))
theorem val_fit {j : Jb} (h : j.ok) (a b : Nat) : (valA j a b).fit :=
  go_fit (adr_fit h _ _) fun _ => ite_fit (rd4_fit h _) (ite_fit (rd4_fit h _) (slip_fit 3 (by decide) (by decide)))
theorem oha_fit {j : Jb} (h : j.ok) (a b : Nat) : (ohaA j a b).fit :=
  go_fit (ite_fit (ic_fit h a) j0_fit) fun _ => ite_fit j1_fit (go_fit (adr_fit h _ _) fun _ => one_fit _)
theorem has_fit {j : Jb} (h : j.ok) (a b : Nat) : (hasA j a b).fit :=
  ite_fit (one_fit _) (ite_fit (one_fit _) (ite_fit (oha_fit h a b) j0_fit))
theorem doK_fit {j : Jb} (h : j.ok) (k a b : Nat) : (doK j k a b).fit :=
  ite_fit (just_fit (by have := reg_le j a; omega)) (ite_fit (tab_fit h _ _) (ite_fit (adr_fit h _ _) (ite_fit (len_fit h _ _) (ite_fit (of_fit h _ _) (ite_fit (val_fit h _ _) (ite_fit (has_fit h _ _) j0_fit))))))
end Go.Proofs.Ytpgppdkbkkljnaa
namespace Go.Proofs.Ytpgppdkbkkljnaa
open Go.RowKit
set_option maxHeartbeats 1000000
set_option maxRecDepth 100000
set_option linter.unusedVariables false

/-- a slice of words that came in -/
structure VRow (w : World) (a : Option Addr) (len : Nat) (xs : List Nat) : Prop where
  ln : xs.length = len
  bd : ∀ x ∈ xs, x < 4294967296
  cells : ∀ i, i < len → ∃ b o, a = some ⟨b, o, none⟩ ∧ w.cell? ⟨b, o + i, none⟩ = some (.int .u32 (xs.getD i 0 : Nat))
theorem bounds_u32' {n : Int} (h : (Lit.int .u32 n).wf = true) : 0 ≤ n ∧ n ≤ 4294967295 := bounds_u32 h
theorem vrow_of {w : World} {a : Option Addr} {len cap : Nat} {zs : List Int} (h : IsRow .u32 w a len cap zs) : ∃ xs, VRow w a len xs ∧ len ≤ cap ∧ len ≤ 9223372036854775807 := by
  rcases h with ⟨rfl, rfl, rfl, rfl⟩ | ⟨x, rfl, hl, hm, hz, hcell, hwz⟩
  · exact ⟨[], ⟨rfl, (fun x hx => by cases hx), fun i hi => by omega⟩, Nat.le_refl _, by omega⟩
  · refine ⟨(zs.take len).map Int.toNat, ⟨by simp; omega, fun y hy => ?_, fun i hi => ?_⟩, hl, by unfold maxLen at hm; omega⟩
    · obtain ⟨z, hz1, rfl⟩ := List.mem_map.1 hy
      have := bounds_u32 (hwz z (List.mem_of_mem_take hz1))
      omega
    · have hc := hcell i (by omega)
      obtain ⟨b, o, spot⟩ := x
      have hspot : spot = none := by simpa [Addr.add] using World.cell?_spot (hcell 0 (by omega))
      subst hspot
      rw [plain_add] at hc
      refine ⟨b, o, rfl, ?_⟩
      rw [hc]
      have hb := bounds_u32 (hwz (zs.getD i 0) (by rw [List.getD_eq_getElem?_getD]; simp [show i < zs.length by omega]))
      have e : ((zs.take len).map Int.toNat).getD i 0 = (zs.getD i 0).toNat := by
        simp [List.getD_eq_getElem?_getD, hi, show i < zs.length by omega]
      rw [e]
      congr 2
      omega
theorem VRow.later {w w' : World} {a : Option Addr} {len : Nat} {xs : List Nat} (h : VRow w a len xs) (hb : Below w.heap.size w w') : VRow w' a len xs :=
  ⟨h.ln, h.bd, fun i hi => by obtain ⟨b, o, e, hc⟩ := h.cells i hi; exact ⟨b, o, e, cellLater hb hc⟩⟩
end Go.Proofs.Ytpgppdkbkkljnaa
namespace Go.Proofs.Ytpgppdkbkkljnaa
open Go.RowKit
set_option maxHeartbeats 1000000
set_option maxRecDepth 100000
set_option linter.unusedVariables false

def hV (s e : Int) : Value := .agg #[.int .i64 s, .int .i64 e]
def lkV (m : Nat) (pa : Option Addr) (pc att : Nat) : Value := .agg #[.pointer (some ⟨m, 0, none⟩), .slice pa 9 pc, .int .u32 att]
/-- a look's own cells -/
def LBox (w : World) (b m : Nat) (pa : Option Addr) (pc att : Nat) : Prop := w.heap[b]? = some (.cells #[.pointer (some ⟨m, 0, none⟩), .slice pa 9 pc, .int .u32 att] 94 (0, 0))
theorem LBox.lt {w : World} {b m pc att : Nat} {pa : Option Addr} (h : LBox w b m pa pc att) : b < w.heap.size := (Array.getElem?_eq_some_iff.1 h).1
theorem LBox.later {w w' : World} {b m pc att : Nat} {pa : Option Addr} (h : LBox w b m pa pc att) (hb : Below w.heap.size w w') : LBox w' b m pa pc att := (hb.block b h.lt).trans h
theorem LBox.cells {w : World} {b m pc att : Nat} {pa : Option Addr} (h : LBox w b m pa pc att) : w.cell? ⟨b, 0, none⟩ = some (.pointer (some ⟨m, 0, none⟩)) ∧ w.cell? ⟨b, 1, none⟩ = some (.slice pa 9 pc) ∧ w.cell? ⟨b, 2, none⟩ = some (.int .u32 att) := by
  unfold LBox at h
  refine ⟨?_, ?_, ?_⟩ <;> simp [World.cell?, h]
/-- a halt's own cells -/
def TBx (w : World) (b : Nat) (s e : Int) : Prop := w.heap[b]? = some (.cells #[.int .i64 s, .int .i64 e] 91 (0, 0))
theorem TBx.lt {w : World} {b : Nat} {s e : Int} (h : TBx w b s e) : b < w.heap.size := (Array.getElem?_eq_some_iff.1 h).1
theorem TBx.later {w w' : World} {b : Nat} {s e : Int} (h : TBx w b s e) (hb : Below w.heap.size w w') : TBx w' b s e := (hb.block b h.lt).trans h
theorem TBx.cells {w : World} {b : Nat} {s e : Int} (h : TBx w b s e) : w.cell? ⟨b, 0, none⟩ = some (.int .i64 s) ∧ w.cell? ⟨b, 1, none⟩ = some (.int .i64 e) ∧ (∀ j, w.frozen? ⟨b, j, none⟩ = false) := by
  unfold TBx at h
  refine ⟨?_, ?_, fun j => by simp [World.frozen?, h]⟩ <;> simp [World.cell?, h]
theorem TBx.new (w : World) (s e : Int) : TBx (w.alloc (.cells #[.int .i64 s, .int .i64 e] 91)) w.heap.size s e := heap_alloc_new _ _
theorem LBox.new (w : World) (m : Nat) (pa : Option Addr) (pc att : Nat) : LBox (w.alloc (.cells #[.pointer (some ⟨m, 0, none⟩), .slice pa 9 pc, .int .u32 att] 94)) w.heap.size m pa pc att := heap_alloc_new _ _
theorem ends18 (s e : Int) (w : World) : Calls Try.prog 66 #[hV s e] w fun r w' => r = .returned (.bool (decide (¬ (s = 0 ∧ e = 0)))) ∧ Below w.heap.size w w' := by
  unfold hV
  have hb : Below w.heap.size w (w.alloc (.cells #[.int .i64 s, .int .i64 e] 91)) := (Below.refl _ _).alloc (Nat.le_refl _) _
  obtain ⟨c0, c1, _⟩ := (TBx.new w s e).cells
  go_enter Try.func66, Try.ntmps66
  go_upto_region 1 with fail
  generalize w.alloc (.cells #[.int .i64 s, .int .i64 e] 91) = w1 at *
  go_wp2
  all_goals
    go_ret
    exact ⟨by simp [*], hb⟩
theorem onew_any (b : Bool) (w : World) : Calls Try.prog 69 #[.bool b] w fun r w' => r = .returned (.int .u32 (if b then 1 else 0)) ∧ w' = w := by
  cases b
  all_goals
    go_enter Try.func69, Try.ntmps69
    go_wp2
    go_ret
    exact ⟨rfl, rfl⟩
theorem kind18 (n : Nat) (hn : n < 4294967296) (w : World) : Calls Try.prog 35 #[.int .u32 n] w fun r w' => r = .returned (.int .u32 ((if 8 ≤ n then n - 6 else n : Nat) : Int)) ∧ w' = w := by
  by_cases h : 8 ≤ n
  · have l1 : (8 : Int) ≤ (n : Int) := by omega
    have e1 : IntKind.u32.wrap ((n : Int) - 6) = ((n - 6 : Nat) : Int) := by rw [IntKind.wrap_u32]; omega
    rw [if_pos h]
    go_enter Try.func35, Try.ntmps35
    go_wp2
    go_ret
    exact ⟨rfl, rfl⟩
  · have l1 : ¬ (8 : Int) ≤ (n : Int) := by omega
    rw [if_neg h]
    go_enter Try.func35, Try.ntmps35
    go_wp2
    go_ret
    exact ⟨rfl, rfl⟩
theorem arg18 (a : Option Addr) (n c : Nat) (xs : List Nat) (i : Nat) (w : World) (h : VRow w a n xs) (hi : i < 2) : Calls Try.prog 36 #[.slice a n c, .int .i64 i] w fun r w' => r = .returned (.int .u32 (xs.getD i 0 : Nat)) ∧ w' = w := by
  by_cases h1 : n ≤ i
  · have l1 : (n : Int) ≤ (i : Int) := by omega
    have e1 : xs.getD i 0 = 0 := by
      rw [List.getD_eq_getElem?_getD, List.getElem?_eq_none (by rw [h.ln]; exact h1)]; rfl
    rw [e1]
    go_enter Try.func36, Try.ntmps36
    go_wp2
    go_ret
    exact ⟨rfl, rfl⟩
  · have l1 : ¬ (n : Int) ≤ (i : Int) := by omega
    have l2 : (i : Int) < (n : Int) := by omega
    have l3 : (0 : Int) ≤ (i : Int) := by omega
    have e3 : ((i : Int)).toNat = i := by omega
    obtain ⟨b, o, rfl, hc⟩ := h.cells i (by omega)
    generalize xs.getD i 0 = V at *
    go_enter Try.func36, Try.ntmps36
    go_wp2
    go_ret
    exact ⟨rfl, rfl⟩
theorem hset {w : World} {b : Nat} {s e : Int} (h : TBx w b s e) (s' e' : Int) : TBx ((w.setCell ⟨b, 0, none⟩ (.int .i64 s')).setCell ⟨b, 1, none⟩ (.int .i64 e')) b s' e' := by
  unfold TBx at *
  simp [World.setCell, Array.getElem?_modify, h]
theorem hset_other {w : World} {b x : Nat} (s' e' : Value) (o : Option Obj) (h : w.heap[x]? = o) (hne : x ≠ b) : ((w.setCell ⟨b, 0, none⟩ s').setCell ⟨b, 1, none⟩ e').heap[x]? = o := by
  have hne' : ¬ b = x := fun e => hne e.symm
  simp [World.setCell, Array.getElem?_modify, h, hne']
/-- a function's boxes: its look, its halt to be told -/
structure Bx2 (w W : World) (L R m : Nat) (pa : Option Addr) (pc att : Nat) : Prop where
  bel : Below w.heap.size w W
  lb : LBox W L m pa pc att
  rb : TBx W R 0 0
  l0 : w.heap.size ≤ L
  r0 : w.heap.size ≤ R
  ne : L ≠ R
/-- and a halt that came from elsewhere -/
structure Bx3 (w W : World) (L R m : Nat) (pa : Option Addr) (pc att H : Nat) (s e : Int) : Prop where
  b2 : Bx2 w W L R m pa pc att
  hb : TBx W H s e
  h0 : w.heap.size ≤ H
  nl : L ≠ H
  nr : R ≠ H
theorem Bx2.start (w : World) (m : Nat) (pa : Option Addr) (pc att : Nat) : Bx2 w ((w.alloc (.cells #[.pointer (some ⟨m, 0, none⟩), .slice pa 9 pc, .int .u32 att] 94)).alloc (.cells #[.int .i64 0, .int .i64 0] 91)) w.heap.size (w.heap.size + 1) m pa pc att := by
  have h1 := LBox.new w m pa pc att
  have hb1 : Below w.heap.size w (w.alloc (.cells #[.pointer (some ⟨m, 0, none⟩), .slice pa 9 pc, .int .u32 att] 94)) := (Below.refl _ _).alloc (Nat.le_refl _) _
  have h2 := TBx.new (w.alloc (.cells #[.pointer (some ⟨m, 0, none⟩), .slice pa 9 pc, .int .u32 att] 94)) 0 0
  have hs : (w.alloc (.cells #[.pointer (some ⟨m, 0, none⟩), .slice pa 9 pc, .int .u32 att] 94)).heap.size = w.heap.size + 1 := by simp
  rw [hs] at h2
  exact ⟨hb1.alloc (by omega) _, h1.later ((Below.refl _ _).alloc (Nat.le_refl _) _), h2, Nat.le_refl _, by omega, by omega⟩
theorem Bx2.call {w W W' : World} {L R m : Nat} {pa : Option Addr} {pc att : Nat} (h : Bx2 w W L R m pa pc att) (hb : Below W.heap.size W W') : Bx2 w W' L R m pa pc att :=
  ⟨h.bel.trans (hb.mono h.bel.size), h.lb.later hb, h.rb.later hb, h.l0, h.r0, h.ne⟩
theorem Bx2.new {w W : World} {L R m : Nat} {pa : Option Addr} {pc att : Nat} (h : Bx2 w W L R m pa pc att) (s e : Int) : Bx3 w (W.alloc (.cells #[.int .i64 s, .int .i64 e] 91)) L R m pa pc att W.heap.size s e :=
  ⟨h.call ((Below.refl _ _).alloc (Nat.le_refl _) _), TBx.new W s e, h.bel.size, by have := h.lb.lt; omega, by have := h.rb.lt; omega⟩
theorem Bx3.call {w W W' : World} {L R m : Nat} {pa : Option Addr} {pc att H : Nat} {s e : Int} (h : Bx3 w W L R m pa pc att H s e) (hb : Below W.heap.size W W') : Bx3 w W' L R m pa pc att H s e :=
  ⟨h.b2.call hb, h.hb.later hb, h.h0, h.nl, h.nr⟩
theorem Bx3.put {w W : World} {L R m : Nat} {pa : Option Addr} {pc att H : Nat} {s e : Int} (h : Bx3 w W L R m pa pc att H s e) (s' e' : Int) : Bx3 w ((W.setCell ⟨H, 0, none⟩ (.int .i64 s')).setCell ⟨H, 1, none⟩ (.int .i64 e')) L R m pa pc att H s' e' :=
  ⟨⟨(h.b2.bel.setCell (p := ⟨H, 0, none⟩) h.h0 _).setCell (p := ⟨H, 1, none⟩) h.h0 _, hset_other _ _ _ h.b2.lb h.nl, hset_other _ _ _ h.b2.rb h.nr, h.b2.l0, h.b2.r0, h.b2.ne⟩, hset h.hb s' e', h.h0, h.nl, h.nr⟩
/-- what is told, is stored: the halt's cells -/
theorem Bx2.fin {w W : World} {L R m : Nat} {pa : Option Addr} {pc att : Nat} (h : Bx2 w W L R m pa pc att) (s e : Int) : TBx ((W.setCell ⟨R, 0, none⟩ (.int .i64 s)).setCell ⟨R, 1, none⟩ (.int .i64 e)) R s e ∧ Below w.heap.size w ((W.setCell ⟨R, 0, none⟩ (.int .i64 s)).setCell ⟨R, 1, none⟩ (.int .i64 e)) :=
  ⟨hset h.rb s e, (h.bel.setCell (p := ⟨R, 0, none⟩) h.r0 _).setCell (p := ⟨R, 1, none⟩) h.r0 _⟩
theorem Bx2.find {w W : World} {L R m : Nat} {pa : Option Addr} {pc att : Nat} (h : Bx2 w W L R m pa pc att) (s e : Int) : TBx ((W.setCell ⟨R, 0, none⟩ (.int .i64 s)).setCell ⟨R, 1, none⟩ (.int .i64 e)).drew R s e ∧ Below w.heap.size w ((W.setCell ⟨R, 0, none⟩ (.int .i64 s)).setCell ⟨R, 1, none⟩ (.int .i64 e)).drew :=
  ⟨(h.fin s e).1.later ((Below.refl _ _).drew), (h.fin s e).2.drew⟩
theorem Bx2.cells {w W : World} {L R m : Nat} {pa : Option Addr} {pc att : Nat} (h : Bx2 w W L R m pa pc att) : W.cell? ⟨L, 0, none⟩ = some (.pointer (some ⟨m, 0, none⟩)) ∧ W.cell? ⟨L, 1, none⟩ = some (.slice pa 9 pc) ∧ W.cell? ⟨L, 2, none⟩ = some (.int .u32 att) ∧ W.cell? ⟨R, 0, none⟩ = some (.int .i64 0) ∧ W.cell? ⟨R, 1, none⟩ = some (.int .i64 0) ∧ W.frozen? ⟨R, 0, none⟩ = false ∧ W.frozen? ⟨R, 1, none⟩ = false := by
  obtain ⟨a, b, c⟩ := h.lb.cells
  obtain ⟨d, e, f⟩ := h.rb.cells
  exact ⟨a, b, c, d, e, f 0, f 1⟩
theorem Bx3.cells {w W : World} {L R m : Nat} {pa : Option Addr} {pc att H : Nat} {s e : Int} (h : Bx3 w W L R m pa pc att H s e) : W.cell? ⟨H, 0, none⟩ = some (.int .i64 s) ∧ W.cell? ⟨H, 1, none⟩ = some (.int .i64 e) ∧ W.frozen? ⟨H, 0, none⟩ = false ∧ W.frozen? ⟨H, 1, none⟩ = false := by
  obtain ⟨a, b, c⟩ := h.hb.cells
  exact ⟨a, b, c 0, c 1⟩
/-- what is told, stored: the look and the other halt stay -/
theorem Bx3.fink {w W : World} {L R m : Nat} {pa : Option Addr} {pc att H : Nat} {s e : Int} (h : Bx3 w W L R m pa pc att H s e) (s' e' : Int) : ((W.setCell ⟨R, 0, none⟩ (.int .i64 s')).setCell ⟨R, 1, none⟩ (.int .i64 e')).cell? ⟨L, 0, none⟩ = some (.pointer (some ⟨m, 0, none⟩)) ∧ ((W.setCell ⟨R, 0, none⟩ (.int .i64 s')).setCell ⟨R, 1, none⟩ (.int .i64 e')).cell? ⟨L, 1, none⟩ = some (.slice pa 9 pc) ∧ ((W.setCell ⟨R, 0, none⟩ (.int .i64 s')).setCell ⟨R, 1, none⟩ (.int .i64 e')).cell? ⟨L, 2, none⟩ = some (.int .u32 att) ∧ ((W.setCell ⟨R, 0, none⟩ (.int .i64 s')).setCell ⟨R, 1, none⟩ (.int .i64 e')).cell? ⟨H, 0, none⟩ = some (.int .i64 s) ∧ ((W.setCell ⟨R, 0, none⟩ (.int .i64 s')).setCell ⟨R, 1, none⟩ (.int .i64 e')).cell? ⟨H, 1, none⟩ = some (.int .i64 e) := by
  have h1 : LBox _ L m pa pc att := hset_other (.int .i64 s') (.int .i64 e') _ h.b2.lb h.b2.ne
  have h2 : TBx _ H s e := hset_other (.int .i64 s') (.int .i64 e') _ h.hb (fun q => h.nr q.symm)
  obtain ⟨a, b, c⟩ := h1.cells
  obtain ⟨d, e, _⟩ := h2.cells
  exact ⟨a, b, c, d, e⟩
def LBx (w : World) (b : Nat) (x y z : Value) : Prop := w.heap[b]? = some (.cells #[x, y, z] 94 (0, 0))
theorem LBx.cells {w : World} {b : Nat} {x y z : Value} (h : LBx w b x y z) : w.cell? ⟨b, 0, none⟩ = some x ∧ w.cell? ⟨b, 1, none⟩ = some y ∧ w.cell? ⟨b, 2, none⟩ = some z ∧ w.frozen? ⟨b, 0, none⟩ = false ∧ w.frozen? ⟨b, 1, none⟩ = false ∧ w.frozen? ⟨b, 2, none⟩ = false := by
  unfold LBx at h
  refine ⟨?_, ?_, ?_, ?_, ?_, ?_⟩ <;> simp [World.cell?, World.frozen?, h]
theorem LBx.set {w : World} {b : Nat} {x y z : Value} (h : LBx w b x y z) (x' y' z' : Value) : LBx (((w.setCell ⟨b, 0, none⟩ x').setCell ⟨b, 1, none⟩ y').setCell ⟨b, 2, none⟩ z') b x' y' z' := by
  unfold LBx at *
  simp [World.setCell, Array.getElem?_modify, h]
theorem look18 (m : Nat) (pa : Option Addr) (pc : Nat) (xs : List Nat) (k : Nat) (w : World) (h : VRow w pa 9 xs) :
    Calls Try.prog 33 #[.pointer (some ⟨m, 0, none⟩), .slice pa 9 pc, .int .u32 k] w fun r w' => r = .returned (lkV m pa pc (if 8 ≤ k then xs.getD 7 0 else 7)) ∧ Below w.heap.size w w' := by
  have hb1 : Below w.heap.size w (w.alloc (.cells #[.pointer none, .slice none 0 0, .int .u32 0] 94)) := (Below.refl _ _).alloc (Nat.le_refl _) _
  obtain ⟨b, o, rfl, hc⟩ := (h.later hb1).cells 7 (by omega)
  generalize xs.getD 7 0 = V at *
  have hbx : LBx (w.alloc (.cells #[.pointer none, .slice none 0 0, .int .u32 0] 94)) w.heap.size (.pointer none) (.slice none 0 0) (.int .u32 0) := heap_alloc_new _ _
  have HX := hidden hbx
  obtain ⟨c0, c1, c2, f0, f1, f2⟩ := hbx.cells
  clear hbx
  unfold lkV
  by_cases h1 : 8 ≤ k
  · have l1 : (8 : Int) ≤ (k : Int) := by omega
    rw [if_pos h1]
    go_enter Try.func33, Try.ntmps33
    go_upto_region 1 with fail
    generalize w.alloc (.cells #[.pointer none, .slice none 0 0, .int .u32 0] 94) = w1 at *
    have HE := hidden (HX.out.set (.pointer (some ⟨m, 0, none⟩)) (.slice (some ⟨b, o, none⟩) 9 pc) (.int .u32 (V : Int)))
    have HB := hidden (((hb1.setCell (p := ⟨w.heap.size, 0, none⟩) (Nat.le_refl _) (.pointer (some ⟨m, 0, none⟩))).setCell (p := ⟨w.heap.size, 1, none⟩) (Nat.le_refl _) (.slice (some ⟨b, o, none⟩) 9 pc)).setCell (p := ⟨w.heap.size, 2, none⟩) (Nat.le_refl _) (.int .u32 (V : Int)))
    go_wp2
    obtain ⟨d0, d1, d2, _⟩ := HE.out.cells
    refine bodyPost_ret (v := .agg #[.pointer (some ⟨m, 0, none⟩), .slice (some ⟨b, o, none⟩) 9 pc, .int .u32 (V : Int)]) (by simp [results, Try.results33, go_sem, d0, d1, d2]) rfl ⟨rfl, HB.out⟩
  · have l1 : ¬ (8 : Int) ≤ (k : Int) := by omega
    rw [if_neg h1]
    go_enter Try.func33, Try.ntmps33
    go_upto_region 1 with fail
    generalize w.alloc (.cells #[.pointer none, .slice none 0 0, .int .u32 0] 94) = w1 at *
    have HE := hidden (HX.out.set (.pointer (some ⟨m, 0, none⟩)) (.slice (some ⟨b, o, none⟩) 9 pc) (.int .u32 7))
    have HB := hidden (((hb1.setCell (p := ⟨w.heap.size, 0, none⟩) (Nat.le_refl _) (.pointer (some ⟨m, 0, none⟩))).setCell (p := ⟨w.heap.size, 1, none⟩) (Nat.le_refl _) (.slice (some ⟨b, o, none⟩) 9 pc)).setCell (p := ⟨w.heap.size, 2, none⟩) (Nat.le_refl _) (.int .u32 7))
    go_wp2
    obtain ⟨d0, d1, d2, _⟩ := HE.out.cells
    refine bodyPost_ret (v := .agg #[.pointer (some ⟨m, 0, none⟩), .slice (some ⟨b, o, none⟩) 9 pc, .int .u32 7]) (by simp [results, Try.results33, go_sem, d0, d1, d2]) rfl ⟨rfl, HB.out⟩
end Go.Proofs.Ytpgppdkbkkljnaa
namespace Go.Proofs.Ytpgppdkbkkljnaa
open Go.RowKit
set_option maxHeartbeats 1000000
set_option maxRecDepth 100000
set_option linter.unusedVariables false

/-- a memory and params that are only read -/
def JAt (w : World) (j : Jb) (m : Nat) (pa : Option Addr) : Prop := (∃ B gb gc bb bc h hv s, MAt B w m gb gc bb bc h hv s ∧ s.bytes = j.bs ∧ s.ram = j.ram) ∧ VRow w pa 9 j.ps
theorem JAt.later {w w' : World} {j : Jb} {m : Nat} {pa : Option Addr} (h : JAt w j m pa) (hb : Below w.heap.size w w') : JAt w' j m pa := by
  obtain ⟨⟨B, gb, gc, bb, bc, hh, hv, s, H, h1, h2⟩, h3⟩ := h
  exact ⟨⟨B, gb, gc, bb, bc, hh, hv, s, H.later hb, h1, h2⟩, h3.later hb⟩
theorem JAt.mrd {w : World} {j : Jb} {m : Nat} {pa : Option Addr} (h : JAt w j m pa) (ok : j.ok) : MRd w m j.bs := by
  obtain ⟨⟨B, gb, gc, bb, bc, hh, hv, s, H, h1, h2⟩, _⟩ := h
  exact ⟨B, gb, gc, bb, bc, hh, hv, s, H, h1, ok.le, ok.okb⟩
theorem JAt.par {w : World} {j : Jb} {m : Nat} {pa : Option Addr} (h : JAt w j m pa) : ∃ pb po, pa = some ⟨pb, po, none⟩ ∧ ∀ i, i < 9 → w.cell? ⟨pb, po + i, none⟩ = some (.int .u32 (j.p i)) := by
  obtain ⟨pb, po, e, _⟩ := h.2.cells 0 (by omega)
  refine ⟨pb, po, e, fun i hi => ?_⟩
  obtain ⟨b, o, e2, hc⟩ := h.2.cells i hi
  rw [e] at e2
  simp only [Option.some.injEq, Addr.mk.injEq] at e2
  obtain ⟨rfl, rfl, _⟩ := e2
  exact hc
theorem rdA_s (bs : List Int) (a n : Nat) : (rdA bs a n).s = 0 := by unfold rdA; split <;> rfl
theorem JAt.read {w : World} {j : Jb} {m : Nat} {pa : Option Addr} (h : JAt w j m pa) (ok : j.ok) (a n : Nat) (hn : n = 1 ∨ n = 2 ∨ n = 4) (ha : a < 4294967296) :
    Calls Try.prog 18 #[.pointer (some ⟨m, 0, none⟩), .int .u32 a, .int .i64 n] w fun e w' => e = .returned (.tuple #[.int .u32 (rdA j.bs a n).x, .int .i64 (rdA j.bs a n).e]) ∧ w' = w := by
  obtain ⟨⟨B, gb, gc, bb, bc, hh, hv, s, H, h1, h2⟩, _⟩ := h
  unfold rdA
  by_cases hc : a + n ≤ j.bs.length
  · rw [if_pos hc, ← (rdN_cast ok.okb a n hn).1]
    have := read_ok B m gb gc bb bc hh hv s a n w H hn ha (by rw [h1]; exact ok.le) (by rw [h1]; exact ok.okb) (by rw [h1]; exact hc)
    rw [h1] at this
    exact this
  · rw [if_neg hc]
    exact read_no B m gb gc bb bc hh hv s a n w H hn ha (by rw [h1]; exact ok.le) (by rw [h1]; omega)
theorem JAt.size {w : World} {j : Jb} {m : Nat} {pa : Option Addr} (h : JAt w j m pa) (ok : j.ok) : Calls Try.prog 63 #[.pointer (some ⟨m, 0, none⟩)] w fun e w' => e = .returned (.int .u32 j.bs.length) ∧ w' = w := by
  obtain ⟨⟨B, gb, gc, bb, bc, hh, hv, s, H, h1, h2⟩, _⟩ := h
  have hle := ok.le
  rw [← h1] at hle ⊢
  obtain ⟨c1, c3, c8, c9, c10, c11, c12, cf⟩ := H.box.cells
  have HS := hidden (size_any m s.bytes.length bc _ w c9 (by omega))
  go_enter Try.func63, Try.ntmps63
  go_wp2_with (go_at_call 47; refine HS.out.mono ?_; rintro e w1 ⟨rfl, e9⟩; rw [e9]; clear e9)
  go_ret
  exact ⟨by rw [h1]; rfl, rfl⟩
theorem JAt.cell {w : World} {j : Jb} {m : Nat} {pb po : Nat} (h : JAt w j m (some ⟨pb, po, none⟩)) (i : Nat) (hi : i < 9) : w.cell? ⟨pb, po + i, none⟩ = some (.int .u32 (j.p i)) := by
  obtain ⟨b, o, e, hc⟩ := h.par
  simp only [Option.some.injEq, Addr.mk.injEq] at e
  obtain ⟨rfl, rfl, _⟩ := e
  exact hc i hi
def HdBx (w : World) (b : Nat) (x0 x1 x2 x3 x4 x5 x6 x7 : Int) : Prop := w.heap[b]? = some (.cells #[.int .u32 x0, .int .u32 x1, .int .u32 x2, .int .u32 x3, .int .u32 x4, .int .u32 x5, .int .u32 x6, .int .u32 x7] 70 (0, 0))
theorem HdBx.cells {w : World} {b : Nat} {x0 x1 x2 x3 x4 x5 x6 x7 : Int} (h : HdBx w b x0 x1 x2 x3 x4 x5 x6 x7) : w.cell? ⟨b, 0, none⟩ = some (.int .u32 x0) ∧ w.cell? ⟨b, 1, none⟩ = some (.int .u32 x1) ∧ w.cell? ⟨b, 2, none⟩ = some (.int .u32 x2) ∧ w.cell? ⟨b, 3, none⟩ = some (.int .u32 x3) ∧ w.cell? ⟨b, 4, none⟩ = some (.int .u32 x4) ∧ w.cell? ⟨b, 5, none⟩ = some (.int .u32 x5) ∧ w.cell? ⟨b, 6, none⟩ = some (.int .u32 x6) ∧ w.cell? ⟨b, 7, none⟩ = some (.int .u32 x7) ∧ ∀ i, w.frozen? ⟨b, i, none⟩ = false := by
  unfold HdBx at h
  refine ⟨?_, ?_, ?_, ?_, ?_, ?_, ?_, ?_, fun j => by simp [World.frozen?, h]⟩ <;> simp [World.cell?, h]
theorem MBox.heads {w : World} {m : Nat} {s : Ms} {gv bv pv : Value} (h : MBox w m s gv bv pv) : w.cell? ⟨m, 0, none⟩ = some (.int .u32 s.v) ∧ w.cell? ⟨m, 1, none⟩ = some (.int .u32 s.ram) ∧ w.cell? ⟨m, 2, none⟩ = some (.int .u32 s.ext) ∧ w.cell? ⟨m, 3, none⟩ = some (.int .u32 s.en) ∧ w.cell? ⟨m, 4, none⟩ = some (.int .u32 s.st) ∧ w.cell? ⟨m, 5, none⟩ = some (.int .u32 s.start) ∧ w.cell? ⟨m, 6, none⟩ = some (.int .u32 s.tab) ∧ w.cell? ⟨m, 7, none⟩ = some (.int .u32 s.sm) := by
  unfold MBox at h
  refine ⟨?_, ?_, ?_, ?_, ?_, ?_, ?_, ?_⟩ <;> simp [World.cell?, h, mcells]
theorem HdBx.set {w : World} {b : Nat} {x0 x1 x2 x3 x4 x5 x6 x7 : Int} (h : HdBx w b x0 x1 x2 x3 x4 x5 x6 x7) (y0 y1 y2 y3 y4 y5 y6 y7 : Int) : HdBx ((((((((w.setCell ⟨b, 0, none⟩ (.int .u32 y0)).setCell ⟨b, 1, none⟩ (.int .u32 y1)).setCell ⟨b, 2, none⟩ (.int .u32 y2)).setCell ⟨b, 3, none⟩ (.int .u32 y3)).setCell ⟨b, 4, none⟩ (.int .u32 y4)).setCell ⟨b, 5, none⟩ (.int .u32 y5)).setCell ⟨b, 6, none⟩ (.int .u32 y6)).setCell ⟨b, 7, none⟩ (.int .u32 y7)) b y0 y1 y2 y3 y4 y5 y6 y7 := by
  unfold HdBx at *
  simp [World.setCell, Array.getElem?_modify, h]
theorem bel8 {B : Nat} {w w1 : World} {b : Nat} (h : Below B w w1) (hB : B ≤ b) (y0 y1 y2 y3 y4 y5 y6 y7 : Value) : Below B w ((((((((w1.setCell ⟨b, 0, none⟩ y0).setCell ⟨b, 1, none⟩ y1).setCell ⟨b, 2, none⟩ y2).setCell ⟨b, 3, none⟩ y3).setCell ⟨b, 4, none⟩ y4).setCell ⟨b, 5, none⟩ y5).setCell ⟨b, 6, none⟩ y6).setCell ⟨b, 7, none⟩ y7) := by
  have h0 := h.setCell (p := ⟨b, 0, none⟩) hB y0
  have h1 := h0.setCell (p := ⟨b, 1, none⟩) hB y1
  have h2 := h1.setCell (p := ⟨b, 2, none⟩) hB y2
  have h3 := h2.setCell (p := ⟨b, 3, none⟩) hB y3
  have h4 := h3.setCell (p := ⟨b, 4, none⟩) hB y4
  have h5 := h4.setCell (p := ⟨b, 5, none⟩) hB y5
  have h6 := h5.setCell (p := ⟨b, 6, none⟩) hB y6
  exact h6.setCell (p := ⟨b, 7, none⟩) hB y7
theorem JAt.head {w : World} {j : Jb} {m : Nat} {pa : Option Addr} (h : JAt w j m pa) : Calls Try.prog 64 #[.pointer (some ⟨m, 0, none⟩)] w fun e w' => (∃ v ext en st start tab sm : Int, e = .returned (.agg #[.int .u32 v, .int .u32 j.ram, .int .u32 ext, .int .u32 en, .int .u32 st, .int .u32 start, .int .u32 tab, .int .u32 sm])) ∧ Below w.heap.size w w' := by
  obtain ⟨⟨B, gb, gc, bb, bc, hh, hv, s, H, h1, h2⟩, _⟩ := h
  have hb1 : Below w.heap.size w (w.alloc (.cells #[.int .u32 0, .int .u32 0, .int .u32 0, .int .u32 0, .int .u32 0, .int .u32 0, .int .u32 0, .int .u32 0] 70)) := (Below.refl _ _).alloc (Nat.le_refl _) _
  obtain ⟨m0, m1, m2, m3, m4, m5, m6, m7⟩ := (H.box.later hb1).heads
  have hx : HdBx (w.alloc (.cells #[.int .u32 0, .int .u32 0, .int .u32 0, .int .u32 0, .int .u32 0, .int .u32 0, .int .u32 0, .int .u32 0] 70)) w.heap.size 0 0 0 0 0 0 0 0 := heap_alloc_new _ _
  have HX := hidden hx
  obtain ⟨c0, c1, c2, c3, c4, c5, c6, c7, cf⟩ := hx.cells
  have f0 := cf 0
  have f1 := cf 1
  have f2 := cf 2
  have f3 := cf 3
  have f4 := cf 4
  have f5 := cf 5
  have f6 := cf 6
  have f7 := cf 7
  rw [h2] at m1
  clear hx H h1 h2 cf
  go_enter Try.func64, Try.ntmps64
  go_upto_region 1 with fail
  generalize w.alloc (.cells #[.int .u32 0, .int .u32 0, .int .u32 0, .int .u32 0, .int .u32 0, .int .u32 0, .int .u32 0, .int .u32 0] 70) = w1 at *
  have HE := hidden (HX.out.set s.v j.ram s.ext s.en s.st s.start s.tab s.sm)
  have HB := hidden (bel8 hb1 (Nat.le_refl _) (.int .u32 s.v) (.int .u32 j.ram) (.int .u32 s.ext) (.int .u32 s.en) (.int .u32 s.st) (.int .u32 s.start) (.int .u32 s.tab) (.int .u32 s.sm))
  go_wp2
  obtain ⟨d0, d1, d2, d3, d4, d5, d6, d7, _⟩ := HE.out.cells
  refine bodyPost_ret (v := .agg #[.int .u32 s.v, .int .u32 j.ram, .int .u32 s.ext, .int .u32 s.en, .int .u32 s.st, .int .u32 s.start, .int .u32 s.tab, .int .u32 s.sm]) (by simp [results, Try.results64, go_sem, d0, d1, d2, d3, d4, d5, d6, d7]) rfl ⟨⟨_, _, _, _, _, _, _, rfl⟩, HB.out⟩
theorem read18 (j : Jb) (ok : j.ok) (m : Nat) (pa : Option Addr) (pc a n : Nat) (hn : n = 1 ∨ n = 2 ∨ n = 4) (ha : a < 4294967296) (w : World) (J : JAt w j m pa) :
    Calls Try.prog 65 #[lkV m pa pc j.att, .int .u32 a, .int .i64 n] w fun r w' => r = .returned (.tuple #[.int .u32 (rdA j.bs a n).x, hV (rdA j.bs a n).s (rdA j.bs a n).e]) ∧ Below w.heap.size w w' := by
  rw [rdA_s]
  unfold lkV hV
  have hX := Bx2.start w m pa pc j.att
  have HR := hidden ((J.later hX.bel).read ok a n hn ha)
  generalize (rdA j.bs a n).x = V at *
  generalize (rdA j.bs a n).e = E at *
  obtain ⟨a0, a1, a2, b0, b1, f0, f1⟩ := hX.cells
  have HF := hidden (hX.fin 0 E)
  clear hX
  go_enter Try.func65, Try.ntmps65
  go_upto_region 1 with fail
  generalize (w.alloc (.cells #[.pointer (some ⟨m, 0, none⟩), .slice pa 9 pc, .int .u32 j.att] 94)).alloc (.cells #[.int .i64 0, .int .i64 0] 91) = w1 at *
  go_wp2_with (go_at_call 18; refine HR.out.mono ?_; rintro e w2 ⟨rfl, e9⟩; rw [e9]; clear e9)
  obtain ⟨d0, d1, _⟩ := HF.out.1.cells
  refine bodyPost_ret (v := .tuple #[.int .u32 V, .agg #[.int .i64 0, .int .i64 E]]) (by simp [results, Try.results65, go_sem, d0, d1]) rfl ⟨rfl, HF.out.2⟩
end Go.Proofs.Ytpgppdkbkkljnaa
namespace Go.Proofs.Ytpgppdkbkkljnaa
open Go.RowKit
set_option maxHeartbeats 2000000
set_option maxRecDepth 100000
set_option linter.unusedVariables false

theorem ends_good (w : World) : Calls Try.prog 66 #[.agg #[.int .i64 0, .int .i64 0]] w fun r w' => r = .returned (.bool false) ∧ Below w.heap.size w w' := (ends18 0 0 w).mono fun r w' h => by simpa using h
theorem ends_bad {s e : Int} (h0 : ¬ (s = 0 ∧ e = 0)) (w : World) : Calls Try.prog 66 #[.agg #[.int .i64 s, .int .i64 e]] w fun r w' => r = .returned (.bool true) ∧ Below w.heap.size w w' := (ends18 s e w).mono fun r w' h => by rw [decide_eq_true h0] at h; exact h
theorem ends_bad2 {s e : Int} (h0 : ¬ e = 0) (w : World) : Calls Try.prog 66 #[.agg #[.int .i64 s, .int .i64 e]] w fun r w' => r = .returned (.bool true) ∧ Below w.heap.size w w' := ends_bad (fun h => h0 h.2) w
theorem one_t (w : World) : Calls Try.prog 69 #[.bool true] w fun r w' => r = .returned (.int .u32 1) ∧ Below w.heap.size w w' := (onew_any true w).mono fun r w' h => ⟨h.1, by rw [h.2]; exact Below.refl _ _⟩
theorem one_f (w : World) : Calls Try.prog 69 #[.bool false] w fun r w' => r = .returned (.int .u32 0) ∧ Below w.heap.size w w' := (onew_any false w).mono fun r w' h => ⟨h.1, by rw [h.2]; exact Below.refl _ _⟩
theorem Bx2.fink2 {w W : World} {L R m : Nat} {pa : Option Addr} {pc att : Nat} (h : Bx2 w W L R m pa pc att) (s' e' : Int) : ((W.setCell ⟨R, 0, none⟩ (.int .i64 s')).setCell ⟨R, 1, none⟩ (.int .i64 e')).cell? ⟨L, 0, none⟩ = some (.pointer (some ⟨m, 0, none⟩)) ∧ ((W.setCell ⟨R, 0, none⟩ (.int .i64 s')).setCell ⟨R, 1, none⟩ (.int .i64 e')).cell? ⟨L, 1, none⟩ = some (.slice pa 9 pc) ∧ ((W.setCell ⟨R, 0, none⟩ (.int .i64 s')).setCell ⟨R, 1, none⟩ (.int .i64 e')).cell? ⟨L, 2, none⟩ = some (.int .u32 att) := by
  have h1 : LBox _ L m pa pc att := hset_other (.int .i64 s') (.int .i64 e') _ h.lb h.ne
  exact h1.cells
theorem region18 (j : Jb) (ok : j.ok) (m : Nat) (pa : Option Addr) (pc a : Nat) (ha : a < 4294967296) (w : World) (J : JAt w j m pa) :
    Calls Try.prog 48 #[lkV m pa pc j.att, .int .u32 a] w fun r w' => r = .returned (.int .u32 (regJ j a)) ∧ Below w.heap.size w w' := by
  unfold lkV
  have hb1 : Below w.heap.size w (w.alloc (.cells #[.pointer (some ⟨m, 0, none⟩), .slice pa 9 pc, .int .u32 j.att] 94)) := (Below.refl _ _).alloc (Nat.le_refl _) _
  have HB1 := hidden hb1
  have HJ := hidden (J.later hb1)
  have hL := LBox.new w m pa pc j.att
  obtain ⟨a0, a1, a2⟩ := hL.cells
  clear hb1
  have hfd : ∀ (v ram ext en st start tab sm : Int) (w : World), (Instr.field 70 (.agg #[.int .u32 v, .int .u32 ram, .int .u32 ext, .int .u32 en, .int .u32 st, .int .u32 start, .int .u32 tab, .int .u32 sm]) 1).run Try.prog w = .ok (.int .u32 ram) w := fun _ _ _ _ _ _ _ _ _ => by kernel_rfl
  have hle := ok.le
  by_cases h36 : a < 36
  · have l1 : (a : Int) < 36 := by omega
    have e : regJ j a = 0 := by unfold regJ; rw [if_pos (.inl h36)]
    rw [e]
    go_enter Try.func48, Try.ntmps48
    go_upto_region 1 with fail
    generalize w.alloc (.cells #[.pointer (some ⟨m, 0, none⟩), .slice pa 9 pc, .int .u32 j.att] 94) = w1 at *
    go_wp2
    go_ret
    exact ⟨rfl, HB1.out⟩
  · have l1 : ¬ (a : Int) < 36 := by omega
    by_cases hsz : j.bs.length ≤ a
    · have l2 : (j.bs.length : Int) ≤ (a : Int) := by omega
      have e : regJ j a = 0 := by unfold regJ; rw [if_pos (.inr hsz)]
      rw [e]
      have HS := hidden (HJ.out.size ok)
      generalize j.bs.length = LL at *
      go_enter Try.func48, Try.ntmps48
      go_upto_region 1 with fail
      generalize w.alloc (.cells #[.pointer (some ⟨m, 0, none⟩), .slice pa 9 pc, .int .u32 j.att] 94) = w1 at *
      go_wp2_with (go_at_call 63; refine HS.out.mono ?_; rintro e w2 ⟨rfl, e9⟩; rw [e9]; clear e9)
      go_ret
      exact ⟨rfl, HB1.out⟩
    · have l2 : ¬ (j.bs.length : Int) ≤ (a : Int) := by omega
      have HS := hidden (HJ.out.size ok)
      have hrd := HJ.out.read ok a 1 (.inl rfl) ha
      have er : rdA j.bs a 1 = ⟨rdN j.bs a 1, 0, 0⟩ := by unfold rdA; rw [if_pos (by omega)]
      rw [er] at hrd
      have HRD := hidden hrd
      have e : regJ j a = if 224 ≤ rdN j.bs a 1 then 3 else if 192 ≤ rdN j.bs a 1 then 2 else if 112 ≤ rdN j.bs a 1 ∧ rdN j.bs a 1 < 128 ∧ j.ram ≤ a then 1 else 0 := by
        unfold regJ; rw [if_neg (by omega)]
      rw [e]
      have HH := hidden HJ.out.head
      have HOK := hidden ok
      clear hrd er e
      generalize rdN j.bs a 1 = X at *
      generalize j.bs.length = LL at *
      by_cases h3 : 224 ≤ X
      · have l3 : (224 : Int) ≤ (X : Int) := by omega
        rw [if_pos h3]
        go_enter Try.func48, Try.ntmps48
        go_upto_region 1 with fail
        generalize w.alloc (.cells #[.pointer (some ⟨m, 0, none⟩), .slice pa 9 pc, .int .u32 j.att] 94) = w1 at *
        go_wp2_with (first | (go_at_call 63; refine HS.out.mono ?_; rintro e w2 ⟨rfl, e9⟩; rw [e9]; clear e9) | (go_at_call 18; refine HRD.out.mono ?_; rintro e w2 ⟨rfl, e9⟩; rw [e9]; clear e9) | fail)
        go_ret
        exact ⟨rfl, HB1.out⟩
      · have l3 : ¬ (224 : Int) ≤ (X : Int) := by omega
        rw [if_neg h3]
        by_cases h4 : 192 ≤ X
        · have l4 : (192 : Int) ≤ (X : Int) := by omega
          rw [if_pos h4]
          go_enter Try.func48, Try.ntmps48
          go_upto_region 1 with fail
          generalize w.alloc (.cells #[.pointer (some ⟨m, 0, none⟩), .slice pa 9 pc, .int .u32 j.att] 94) = w1 at *
          go_wp2_with (first | (go_at_call 63; refine HS.out.mono ?_; rintro e w2 ⟨rfl, e9⟩; rw [e9]; clear e9) | (go_at_call 18; refine HRD.out.mono ?_; rintro e w2 ⟨rfl, e9⟩; rw [e9]; clear e9) | fail)
          go_ret
          exact ⟨rfl, HB1.out⟩
        · have l4 : ¬ (192 : Int) ≤ (X : Int) := by omega
          rw [if_neg h4]
          by_cases h5 : 112 ≤ X ∧ X < 128
          · have l5 : (112 : Int) ≤ (X : Int) := by omega
            have l6 : (X : Int) < 128 := by omega
            by_cases h7 : j.ram ≤ a
            · have l7 : (j.ram : Int) ≤ (a : Int) := by omega
              rw [if_pos ⟨h5.1, h5.2, h7⟩]
              go_enter Try.func48, Try.ntmps48
              go_upto_region 1 with fail
              generalize w.alloc (.cells #[.pointer (some ⟨m, 0, none⟩), .slice pa 9 pc, .int .u32 j.att] 94) = w1 at *
              go_wp2_with (first | (go_at_call 63; refine HS.out.mono ?_; rintro e w2 ⟨rfl, e9⟩; rw [e9]; clear e9) | (go_at_call 18; refine HRD.out.mono ?_; rintro e w2 ⟨rfl, e9⟩; rw [e9]; clear e9) | (go_at_call 64; refine HH.out.mono ?_; rintro e w2 ⟨⟨v, ext, en, st, start, tab, sm, rfl⟩, hb2⟩) | fail)
              go_ret
              exact ⟨rfl, HB1.out.trans (hb2.mono HB1.out.size)⟩
            · have l7 : ¬ (j.ram : Int) ≤ (a : Int) := by omega
              rw [if_neg (by omega)]
              go_enter Try.func48, Try.ntmps48
              go_upto_region 1 with fail
              generalize w.alloc (.cells #[.pointer (some ⟨m, 0, none⟩), .slice pa 9 pc, .int .u32 j.att] 94) = w1 at *
              go_wp2_with (first | (go_at_call 63; refine HS.out.mono ?_; rintro e w2 ⟨rfl, e9⟩; rw [e9]; clear e9) | (go_at_call 18; refine HRD.out.mono ?_; rintro e w2 ⟨rfl, e9⟩; rw [e9]; clear e9) | (go_at_call 64; refine HH.out.mono ?_; rintro e w2 ⟨⟨v, ext, en, st, start, tab, sm, rfl⟩, hb2⟩) | fail)
              go_ret
              exact ⟨rfl, HB1.out.trans (hb2.mono HB1.out.size)⟩
          · rw [if_neg (by omega)]
            by_cases h6 : 112 ≤ X
            · have l5 : (112 : Int) ≤ (X : Int) := by omega
              have l6 : ¬ (X : Int) < 128 := by omega
              go_enter Try.func48, Try.ntmps48
              go_upto_region 1 with fail
              generalize w.alloc (.cells #[.pointer (some ⟨m, 0, none⟩), .slice pa 9 pc, .int .u32 j.att] 94) = w1 at *
              go_wp2_with (first | (go_at_call 63; refine HS.out.mono ?_; rintro e w2 ⟨rfl, e9⟩; rw [e9]; clear e9) | (go_at_call 18; refine HRD.out.mono ?_; rintro e w2 ⟨rfl, e9⟩; rw [e9]; clear e9) | fail)
              go_ret
              exact ⟨rfl, HB1.out⟩
            · have l5 : ¬ (112 : Int) ≤ (X : Int) := by omega
              go_enter Try.func48, Try.ntmps48
              go_upto_region 1 with fail
              generalize w.alloc (.cells #[.pointer (some ⟨m, 0, none⟩), .slice pa 9 pc, .int .u32 j.att] 94) = w1 at *
              go_wp2_with (first | (go_at_call 63; refine HS.out.mono ?_; rintro e w2 ⟨rfl, e9⟩; rw [e9]; clear e9) | (go_at_call 18; refine HRD.out.mono ?_; rintro e w2 ⟨rfl, e9⟩; rw [e9]; clear e9) | fail)
              go_ret
              exact ⟨rfl, HB1.out⟩
theorem isprop18 (j : Jb) (ok : j.ok) (m : Nat) (pa : Option Addr) (pc b : Nat) (hb : b < 4294967296) (w : World) (J : JAt w j m pa) :
    Calls Try.prog 83 #[lkV m pa pc j.att, .int .u32 b] w fun r w' => r = .returned (.bool (clsP j b)) ∧ Below w.heap.size w w' := by
  obtain ⟨pb, po, rfl, _⟩ := J.par
  unfold lkV
  have hb1 : Below w.heap.size w (w.alloc (.cells #[.pointer (some ⟨m, 0, none⟩), .slice (some ⟨pb, po, none⟩) 9 pc, .int .u32 j.att] 94)) := (Below.refl _ _).alloc (Nat.le_refl _) _
  have HB1 := hidden hb1
  have p1 := (J.later hb1).cell 1 (by omega)
  have hL := LBox.new w m (some ⟨pb, po, none⟩) pc j.att
  obtain ⟨a0, a1, a2⟩ := hL.cells
  have hp := ok.p 1
  unfold clsP
  generalize j.p 1 = I at *
  have e8 : IntKind.u32.wrap ((I : Int) + 8) = ((wr32 (I + 8) : Nat) : Int) := by rw [IntKind.wrap_u32]; unfold wr32; omega
  generalize wr32 (I + 8) = K at *
  clear hb1 hL J
  by_cases h1 : I ≤ b
  · have l1 : (I : Int) ≤ (b : Int) := by omega
    rw [decide_eq_true h1, Bool.true_and]
    go_enter Try.func83, Try.ntmps83
    go_upto_region 1 with fail
    generalize w.alloc (.cells #[.pointer (some ⟨m, 0, none⟩), .slice (some ⟨pb, po, none⟩) 9 pc, .int .u32 j.att] 94) = w1 at *
    go_wp2
    go_ret
    exact ⟨rfl, HB1.out⟩
  · have l1 : ¬ (I : Int) ≤ (b : Int) := by omega
    rw [decide_eq_false h1, Bool.false_and]
    go_enter Try.func83, Try.ntmps83
    go_upto_region 1 with fail
    generalize w.alloc (.cells #[.pointer (some ⟨m, 0, none⟩), .slice (some ⟨pb, po, none⟩) 9 pc, .int .u32 j.att] 94) = w1 at *
    go_wp2
    go_ret
    exact ⟨rfl, HB1.out⟩
end Go.Proofs.Ytpgppdkbkkljnaa
