/- Layer 18: a table's Param and Params; acts on a table, as folds. -/
import Derived.Test.YtpgppdkbkkljnaaN19h0
namespace Go.Proofs.Ytpgppdkbkkljnaa
open Go.RowKit Go.Maps
set_option maxHeartbeats 1000000
set_option maxRecDepth 100000
set_option linter.unusedVariables false

theorem TbBox.set {w : World} {T mb : Nat} {ps : List Nat} (h : TbBox w T ps mb) (i x : Nat) (hi : i < ps.length) : TbBox (w.setCell ⟨T, i, none⟩ (.int .u32 (x : Int))) T (ps.set i x) mb := by
  have hs := setCell_eq_setRow w T i (wdV ps ++ [Value.map (some mb)]).toArray 66 (0, 0) (.int .u32 (x : Int)) h
  unfold TbBox
  rw [hs, setRow_heap w T (wdV ps ++ [Value.map (some mb)]).toArray _ _ _ h]
  have hl : i < (wdV ps).length := by simpa [wdV] using hi
  unfold wdV
  rw [List.map_set]
  simp [List.set_append_left _ _ (by simpa using hi : i < (ps.map fun x : Nat => Value.int .u32 (x : Int)).length)]
theorem param18 (B T mb n : Nat) (ps : List Nat) (F : Nat → Nat) (i x : Nat) (w : World) (H : TAt B w T mb n ps F) (hi : i < 4294967296) (hx : x < 4294967296) (hB : B ≤ w.heap.size) :
    Calls Try.prog 11 #[.pointer (some ⟨T, 0, none⟩), .int .u32 i, .int .u32 x] w fun e w' => e = .returned (.tuple #[]) ∧ TAt B w' T mb n (if i < 9 then ps.set i x else ps) F ∧ Below B w w' ∧ (∀ b, b ≠ T → w'.heap[b]? = w.heap[b]?) := by
  obtain ⟨cp, c9, cf⟩ := H.box.cell H.ln
  have HH := hidden H
  by_cases h9 : i < 9
  · rw [if_pos h9]
    have l9 : (i : Int) < 9 := by omega
    have l0 : (0 : Int) ≤ (i : Int) := by omega
    have e3 : ((i : Int)).toNat = i := by omega
    have hc := cp i h9
    have hf := cf i
    have HS := hidden (H.box.set i x (by rw [H.ln]; exact h9))
    have HB : Hid (Below B w (w.setCell ⟨T, i, none⟩ (.int .u32 (x : Int)))) := hidden ((Below.refl B w).setCell (p := ⟨T, i, none⟩) H.base _)
    obtain ⟨D, hO, hI, hA⟩ := H.mp
    have HO := hidden (hO.setCell (a := ⟨T, i, none⟩) (fun e => H.ne e.symm) (.int .u32 (x : Int)))
    have HI := hidden hI
    have HA := hidden hA
    clear cp c9 cf H hO hI hA
    go_enter Try.func11, Try.ntmps11
    go_wp2
    refine bodyPost_end (v := .tuple #[]) (by simp [results, Try.results11, go_sem]) rfl ⟨rfl, ⟨HH.out.base, HH.out.basem, HH.out.ne, by rw [List.length_set]; exact HH.out.ln, HS.out, D, HO.out, HI.out, HA.out⟩, HB.out, fun b hb => by simp [World.setCell, Array.getElem?_modify]; intro e; exact absurd e.symm hb⟩
  · rw [if_neg h9]
    have l9 : ¬ (i : Int) < 9 := by omega
    clear cp c9 cf H
    go_enter Try.func11, Try.ntmps11
    go_wp2
    refine bodyPost_end (v := .tuple #[]) (by simp [results, Try.results11, go_sem]) rfl ⟨rfl, HH.out, Below.refl _ _, fun _ _ => rfl⟩
/-- an act on a table -/
structure Ac18 where
  k : Int
  a : Nat
  x : Nat
def stP (ps : List Nat) (c : Ac18) : List Nat := if c.k = 0 then (if c.a < 9 then ps.set c.a c.x else ps) else ps
def stF (F : Nat → Nat) (c : Ac18) : Nat → Nat := if c.k = 1 then (if 13 < c.x then F else fun y => if y = c.a then c.x else F y) else F
def psOf (l : List Ac18) : List Nat := l.foldl stP z9
def fnOf (l : List Ac18) : Nat → Nat := l.foldl stF (fun _ => 0)
theorem stP_len (ps : List Nat) (c : Ac18) : (stP ps c).length = ps.length := by
  unfold stP
  repeat' split
  all_goals simp
theorem psOf_snoc (l : List Ac18) (c : Ac18) : psOf (l ++ [c]) = stP (psOf l) c := by simp [psOf]
theorem fnOf_snoc (l : List Ac18) (c : Ac18) : fnOf (l ++ [c]) = stF (fnOf l) c := by simp [fnOf]
theorem fold_len : ∀ (l : List Ac18) (ps : List Nat), ps.length = 9 → (l.foldl stP ps).length = 9
  | [], _, h => h
  | c :: l, ps, h => fold_len l _ (by rw [stP_len]; exact h)
theorem psOf_len (l : List Ac18) : (psOf l).length = 9 := fold_len l z9 rfl
/-- what the law reckons for an address -/
def atOf (a : Nat) (l : List Ac18) : Nat := l.foldl (fun acc c => if c.k = 1 ∧ c.a = a ∧ c.x ≤ 13 then c.x else acc) 0
theorem at_step (a acc : Nat) (F : Nat → Nat) (c : Ac18) (h : acc = F a) : (if c.k = 1 ∧ c.a = a ∧ c.x ≤ 13 then c.x else acc) = stF F c a := by
  unfold stF
  by_cases h1 : c.k = 1
  · by_cases h13 : 13 < c.x
    · rw [if_neg (by omega), if_pos h1, if_pos h13]; exact h
    · by_cases ha : c.a = a
      · rw [if_pos ⟨h1, ha, by omega⟩, if_pos h1, if_neg h13, if_pos ha.symm]
      · rw [if_neg (fun h => ha h.2.1), if_pos h1, if_neg h13, if_neg (fun h => ha h.symm)]; exact h
  · rw [if_neg (fun h => h1 h.1), if_neg h1]; exact h
theorem fold_at (a : Nat) : ∀ (l : List Ac18) (acc : Nat) (F : Nat → Nat), acc = F a → l.foldl (fun acc c => if c.k = 1 ∧ c.a = a ∧ c.x ≤ 13 then c.x else acc) acc = (l.foldl stF F) a
  | [], _, _, h => h
  | c :: l, acc, F, h => fold_at a l _ _ (at_step a acc F c h)
theorem atOf_eq (a : Nat) (l : List Ac18) : atOf a l = fnOf l a := fold_at a l 0 _ rfl
theorem atOf_snoc (a : Nat) (l : List Ac18) (c : Ac18) : atOf a (l ++ [c]) = if c.k = 1 ∧ c.a = a ∧ c.x ≤ 13 then c.x else atOf a l := by simp [atOf]
theorem tparams18 (B T mb n : Nat) (ps : List Nat) (F : Nat → Nat) (w : World) (H : TAt B w T mb n ps F) :
    Calls Try.prog 13 #[.pointer (some ⟨T, 0, none⟩)] w fun e w' => ∃ g, e = .returned (.slice (some ⟨g, 0, none⟩) 9 9) ∧ w.heap.size ≤ g ∧ (∀ i, i < 9 → w'.cell? ⟨g, i, none⟩ = some (.int .u32 (ps.getD i 0 : Nat)) ∧ w'.frozen? ⟨g, i, none⟩ = false) ∧ Below w.heap.size w w' := by
  obtain ⟨cp, c9, cf⟩ := H.box.cell H.ln
  have k0 := cp 0 (by decide)
  have k1 := cp 1 (by decide)
  have k2 := cp 2 (by decide)
  have k3 := cp 3 (by decide)
  have k4 := cp 4 (by decide)
  have k5 := cp 5 (by decide)
  have k6 := cp 6 (by decide)
  have k7 := cp 7 (by decide)
  have k8 := cp 8 (by decide)
  clear c9 cf cp
  go_enter Try.func13, Try.ntmps13
  go_wp2
  go_ret
  refine ⟨w.heap.size, rfl, Nat.le_refl _, fun i hi => ?_, (Below.refl _ _).alloc (Nat.le_refl _) _⟩
  have hb := heap_alloc_new w (.cells #[.int .u32 (ps[0]?.getD 0 : Nat), .int .u32 (ps[1]?.getD 0 : Nat), .int .u32 (ps[2]?.getD 0 : Nat), .int .u32 (ps[3]?.getD 0 : Nat), .int .u32 (ps[4]?.getD 0 : Nat), .int .u32 (ps[5]?.getD 0 : Nat), .int .u32 (ps[6]?.getD 0 : Nat), .int .u32 (ps[7]?.getD 0 : Nat), .int .u32 (ps[8]?.getD 0 : Nat)] 64)
  generalize (w.alloc (.cells #[.int .u32 (ps[0]?.getD 0 : Nat), .int .u32 (ps[1]?.getD 0 : Nat), .int .u32 (ps[2]?.getD 0 : Nat), .int .u32 (ps[3]?.getD 0 : Nat), .int .u32 (ps[4]?.getD 0 : Nat), .int .u32 (ps[5]?.getD 0 : Nat), .int .u32 (ps[6]?.getD 0 : Nat), .int .u32 (ps[7]?.getD 0 : Nat), .int .u32 (ps[8]?.getD 0 : Nat)] 64)) = W at *
  refine ⟨?_, by simp [World.frozen?, hb]⟩
  rw [List.getD_eq_getElem?_getD]
  rcases (by omega : i = 0 ∨ i = 1 ∨ i = 2 ∨ i = 3 ∨ i = 4 ∨ i = 5 ∨ i = 6 ∨ i = 7 ∨ i = 8) with rfl | rfl | rfl | rfl | rfl | rfl | rfl | rfl | rfl <;> simp [World.cell?, hb]
end Go.Proofs.Ytpgppdkbkkljnaa
