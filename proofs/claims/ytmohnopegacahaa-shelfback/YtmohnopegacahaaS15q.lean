/- Layer 15, the program: how many bytes the files have but for one. -/
import Derived.Test.YtmohnopegacahaaS15p
import Derived.StringKeys
import Derived.Laws.IdiomRangeMap
namespace Go.Proofs.Ytmohnopegacahaa
open Go.RowKit
set_option maxHeartbeats 1000000
set_option maxRecDepth 100000
set_option linter.unusedVariables false

/-- how many bytes the files have but for one, those alone that are no longer to come -/
def bbL (F : List Fl) (fp : Option Nat) (left : Lit → Bool) : Nat := (F.map (fun f => if left (.string f.nm) = true then 0 else if some f.b = fp then 0 else f.zs.length)).sum
def bbF (F : List Fl) (fp : Option Nat) : Nat := (F.map (fun f => if some f.b = fp then 0 else f.zs.length)).sum
theorem bb_start {F : List Fl} (fp : Option Nat) {left : Lit → Bool} (h : ∀ f ∈ F, left (.string f.nm) = true) : bbL F fp left = 0 := by
  unfold bbL
  induction F with
  | nil => rfl
  | cons a l ih =>
    rw [List.map_cons, List.sum_cons, if_pos (h a (by simp)), ih (fun f hf => h f (by simp [hf]))]
theorem bb_end {F : List Fl} (fp : Option Nat) {left : Lit → Bool} (h : ∀ k, left k = false) : bbL F fp left = bbF F fp := by
  unfold bbL bbF
  congr 2
  funext f
  rw [if_neg (by rw [h]; simp)]
theorem bb_step {F : List Fl} (fp : Option Nat) {left : Lit → Bool} (nd : F.Pairwise (fun a b => a.nm ≠ b.nm)) {f : Fl} (hf : f ∈ F) (hl : left (.string f.nm) = true) :
    bbL F fp (fun z => left z && !z.sameKey (.string f.nm)) = bbL F fp left + (if some f.b = fp then 0 else f.zs.length) := by
  have hself : (Lit.string f.nm).sameKey (.string f.nm) = true := WideAt.sameKey_self trivial
  have hne : ∀ a : Fl, a.nm ≠ f.nm → (Lit.string a.nm).sameKey (.string f.nm) = false := fun a h => Maps.sameKey_ne (fun e => h (by injection e))
  unfold bbL
  induction F with
  | nil => cases hf
  | cons a l ih =>
    obtain ⟨n1, n2⟩ := List.pairwise_cons.1 nd
    rw [List.map_cons, List.map_cons, List.sum_cons, List.sum_cons]
    rcases List.mem_cons.1 hf with q | q
    · subst q
      have hrest : ∀ x ∈ l, (if (left (.string x.nm) && !(Lit.string x.nm).sameKey (.string f.nm)) = true then 0 else if some x.b = fp then 0 else x.zs.length) = (if left (.string x.nm) = true then 0 else if some x.b = fp then 0 else x.zs.length) := fun x hx => by
        rw [hne x (fun e => n1 x hx e.symm)]
        simp
      rw [List.map_congr_left hrest]
      simp only [hl, hself, Bool.not_true, Bool.and_false, Bool.false_eq_true, ↓reduceIte]
      omega
    · have h1 := ih n2 q
      have h2 : a.nm ≠ f.nm := fun e => n1 f q e
      rw [h1]
      simp only [hne a h2, Bool.not_false, Bool.and_true]
      omega
theorem bb_le {F : List Fl} (fp : Option Nat) (left : Lit → Bool) : bbL F fp left ≤ (F.map (fun f => f.zs.length)).sum := by
  unfold bbL
  induction F with
  | nil => simp
  | cons a l ih =>
    rw [List.map_cons, List.map_cons, List.sum_cons, List.sum_cons]
    have : (if left (.string a.nm) = true then 0 else if some a.b = fp then 0 else a.zs.length) ≤ a.zs.length := by
      split
      · omega
      · split <;> omega
    omega
theorem keyS : Maps.Keyed Try.prog 9 := Maps.string_keyed Try.underlying9
theorem key_inv {key : Value} {kl : Lit} (h : keyOf Try.prog 9 key = some kl) : ∃ s : ByteArray, key = .string s ∧ kl = .string s.data.toList := by
  obtain ⟨s, h1, h2, _⟩ := WideMaps.string_of_keyOf Try.underlying9 h
  exact ⟨s, h1, h2⟩
theorem el_inv {v : Value} {y : DataW Unit × List MemPlace} (h : elF v = some y) : ∃ c : Option Nat, v = ptrF c := by
  unfold elF at h
  split at h
  · exact ⟨none, rfl⟩
  · exact ⟨some _, rfl⟩
  · cases h
theorem el_ptr (c : Option Nat) {y : DataW Unit × List MemPlace} (h : elF (ptrF c) = some y) : y.1 = match c with
    | none => .nil
    | some b => .lit (.int .i64 (b : Int)) := by
  cases c with
  | none => simp [elF, ptrF] at h; subst h; rfl
  | some b => simp [elF, ptrF] at h; subst h; rfl
/-- whose entry has come -/
theorem who {D : DataW Unit} {F : List Fl} (t : DTie D F) {nm : List UInt8} {c : Option Nat} {y : DataW Unit × List MemPlace} (h1 : elF (ptrF c) = some y) (h2 : ∀ zd, D.atKey (.string nm) zd = y.1) : ∃ f ∈ F, f.nm = nm ∧ c = some f.b := by
  have h3 : Maps.has D (.string nm) = true := Maps.has_true_of_atKey h2
  rw [t.has nm] at h3
  obtain ⟨f, hf⟩ := Option.isSome_iff_exists.1 h3
  have h4 := t.at_ nm
  rw [h2, hf, el_ptr c h1] at h4
  unfold findF at hf
  refine ⟨f, List.mem_of_find?_eq_some hf, by simpa using List.find?_some hf, ?_⟩
  cases c with
  | none => cases h4
  | some b =>
    simp only [encF] at h4
    injection h4 with h4
    injection h4 with _ h4
    congr 1
    omega
end Go.Proofs.Ytmohnopegacahaa
