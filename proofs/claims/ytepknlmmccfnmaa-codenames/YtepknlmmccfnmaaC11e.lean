/- The document's Name and Op: what the table says. -/
import Derived.Test.YtepknlmmccfnmaaC11d
namespace Go.Proofs.Ytepknlmmccfnmaa
open Go.RowKit
set_option maxHeartbeats 1000000
set_option maxRecDepth 100000
set_option linter.unusedVariables false

def nmV (op : Int) : List UInt8 := lookV op [] namesL ++ lookV op [] othersL ++ lookV op (lookV op [] lastL) restL
theorem nm_keys : ((namesL ++ othersL ++ lastL ++ restL).all fun p => tab.any fun r => r.1 == p.1) = true := by kernel_rfl
theorem nm_tab : (tab.all fun r => decide (nmV r.1 = (rwV (opR r.1)).2.1)) = true := by kernel_rfl
theorem nm_eq (op : Int) : nmV op = (rwV (opR op)).2.1 := by
  by_cases h : ∃ r ∈ tab, op = r.1
  · obtain ⟨r, hr, rfl⟩ := h
    exact of_decide_eq_true (List.all_eq_true.1 nm_tab r hr)
  · have h' : ∀ r ∈ tab, op ≠ r.1 := fun r hr e => h ⟨r, hr, e⟩
    have hk : ∀ p ∈ namesL ++ othersL ++ lastL ++ restL, op ≠ p.1 := fun p hp e => by
      have := List.all_eq_true.1 nm_keys p hp
      rw [List.any_eq_true] at this
      obtain ⟨r, hr, he⟩ := this
      exact h' r hr (by rw [e]; simpa using (beq_iff_eq.1 he).symm)
    rw [tab_else op h']
    unfold nmV
    rw [look_else op _ _ fun p hp => hk p (by simp [hp]), look_else op _ othersL fun p hp => hk p (by simp [hp]), look_else op _ restL fun p hp => hk p (by simp [hp]), look_else op _ lastL fun p hp => hk p (by simp [hp])]
    rfl
theorem ba_app (a b : List UInt8) : (⟨a.toArray⟩ : ByteArray) ++ (⟨b.toArray⟩ : ByteArray) = ⟨(a ++ b).toArray⟩ := by
  apply ByteArray.ext
  simp
theorem look_all {X : Type} (P : X → Prop) (op : Int) (d : X) : ∀ l : List (Int × X), P d → (∀ p ∈ l, P p.2) → P (lookV op d l)
  | [], hd, _ => hd
  | p :: l, hd, h => by
    unfold lookV
    split
    · exact h p (by simp)
    · exact look_all P op d l hd fun q hq => h q (by simp [hq])
theorem short_all : ((namesL ++ othersL ++ lastL ++ restL).all fun p => decide (p.2.length ≤ 1000)) = true := by kernel_rfl
theorem short_mem {p : Int × List UInt8} (h : p ∈ namesL ++ othersL ++ lastL ++ restL) : p.2.length ≤ 1000 := of_decide_eq_true (List.all_eq_true.1 short_all p h)
theorem dname_any (op : Int) (w : World) :
    Calls Try.prog 12 #[.int .u32 op] w fun e w' => e = .returned (strV (rwV (opR op)).2.1) ∧ w' = w := by
  have H1 := hidden fun wx => dnames_any op wx
  have H2 := hidden fun wx => dothers_any op wx
  have H3 := hidden fun wx => drest_any op wx
  have l1 : (lookV op [] namesL).length ≤ 1000 := look_all (fun x : List UInt8 => x.length ≤ 1000) op _ _ (by simp) fun p hp => short_mem (by simp [hp])
  have l2 : (lookV op [] othersL).length ≤ 1000 := look_all (fun x : List UInt8 => x.length ≤ 1000) op _ _ (by simp) fun p hp => short_mem (by simp [hp])
  have l4 : (lookV op [] lastL).length ≤ 1000 := look_all (fun x : List UInt8 => x.length ≤ 1000) op _ _ (by simp) fun p hp => short_mem (by simp [hp])
  have l3 : (lookV op (lookV op [] lastL) restL).length ≤ 1000 := look_all (fun x : List UInt8 => x.length ≤ 1000) op _ _ l4 fun p hp => short_mem (by simp [hp])
  rw [← nm_eq]
  unfold nmV
  generalize lookV op [] namesL = a at *
  generalize lookV op [] othersL = b at *
  generalize lookV op (lookV op [] lastL) restL = c at *
  have d1 : ¬ 9223372036854775807 < a.length + b.length := by omega
  have d2 : ¬ 9223372036854775807 < a.length + b.length + c.length := by omega
  go_enter Try.func12, Try.ntmps12
  go_wp2_with (first | (go_at_call 20; refine (H1.out _).mono ?_; rintro e w1 ⟨rfl, rfl⟩) | (go_at_call 21; refine (H2.out _).mono ?_; rintro e w1 ⟨rfl, rfl⟩) | (go_at_call 22; refine (H3.out _).mono ?_; rintro e w1 ⟨rfl, rfl⟩))
  go_ret
  exact ⟨by rw [ba_app, ba_app]; rfl, rfl⟩
/-- what all rows keep to -/
theorem tab_ok : (tab.all fun r => decide (opR r.1 = some r) && decide (nmR r.2.1 = some r) && decide (0 ≤ r.1 ∧ r.1 ≤ 569) && decide (r.2.1 ≠ []) && decide (r.2.2.length ≤ 8) && r.2.2.all fun c => c == 76 || c == 83) = true := by kernel_rfl
theorem tab_row {r : Rw} (h : r ∈ tab) : opR r.1 = some r ∧ nmR r.2.1 = some r ∧ (0 ≤ r.1 ∧ r.1 ≤ 569) ∧ r.2.1 ≠ [] ∧ r.2.2.length ≤ 8 ∧ ∀ c ∈ r.2.2, c = 76 ∨ c = 83 := by
  have := List.all_eq_true.1 tab_ok r h
  simp only [Bool.and_eq_true, decide_eq_true_eq, List.all_eq_true, Bool.or_eq_true, beq_iff_eq] at this
  obtain ⟨⟨⟨⟨⟨h1, h2⟩, h3⟩, h4⟩, h5⟩, h6⟩ := this
  exact ⟨h1, h2, h3, h4, h5, h6⟩
theorem opR_mem {op : Int} {r : Rw} (h : opR op = some r) : r ∈ tab ∧ r.1 = op := by
  unfold opR at h
  exact ⟨List.mem_of_find?_eq_some h, by simpa using List.find?_some h⟩
theorem nmR_mem {s : List UInt8} {r : Rw} (h : nmR s = some r) : r ∈ tab ∧ r.2.1 = s := by
  unfold nmR at h
  exact ⟨List.mem_of_find?_eq_some h, by simpa using List.find?_some h⟩
/-- whose name it is -/
theorem name_of {op : Int} {s : List UInt8} (hs : s ≠ []) (h : (rwV (opR op)).2.1 = s) : nmR s = opR op ∧ ∃ r, opR op = some r ∧ r.1 = op := by
  cases hr : opR op with
  | none => rw [hr] at h; exact (hs h.symm).elim
  | some r =>
    rw [hr] at h
    have hm := opR_mem hr
    have := tab_row hm.1
    have h' : r.2.1 = s := h
    rw [← h']
    exact ⟨this.2.1, r, rfl, hm.2⟩
theorem dop_any (nm : List UInt8) (w : World) :
    Calls Try.prog 10 #[strV nm] w fun e w' => e = .returned (.tuple #[.int .u32 (rwV (nmR nm)).1, .bool (nmR nm).isSome]) ∧ Below w.heap.size w w' := by
  have HD := hidden fun (k : Nat) (hk : k ≤ 569) => fun wx => dname_any (k : Int) wx
  have hbt : ∀ l : List UInt8, (⟨l.toArray⟩ : ByteArray).toList = l := fun l => by simp [ByteArray.toList_mk]
  go_enter Try.func10, Try.ntmps10
  go_wp2
  go_loopw [4] (fun i wr => ∃ k : Nat, k ≤ 570 ∧ i = .int .u32 k ∧ Hid (∀ j : Nat, j < k → nm = [] ∨ (rwV (opR j)).2.1 ≠ nm) ∧ Hid (Below w.heap.size w wr)) (fun i _ => 570 - (intOf i).toNat)
  case atStart => exact ⟨0, by omega, rfl, fun j hj => by omega, Below.refl _ _⟩
  case round =>
    obtain ⟨k, hk, rfl, HJ, HB⟩ := hrel
    by_cases hlt : k ≤ 569
    · have HC := hidden (HD.out k hlt)
      have hw : IntKind.u32.wrap ((k : Int) + 1) = (k : Int) + 1 := by rw [IntKind.wrap_u32]; omega
      have d1 : (k : Int) ≤ 569 := by omega
      by_cases hn : nm = []
      · have q1 : (nm == []) = true := by simpa using hn
        have HJ2 : Hid (∀ j : Nat, j < k + 1 → nm = [] ∨ (rwV (opR j)).2.1 ≠ nm) := fun j _ => .inl hn
        clear HJ
        subst hn
        go_wp2
        go_roundw
        case rel => exact ⟨k + 1, by omega, int_eq (by omega), fun j _ => .inl trivial, HB⟩
        case measure => simp [intOf]; omega
      · have q1 : (nm == []) = false := by simpa using hn
        by_cases he : (rwV (opR k)).2.1 = nm
        · obtain ⟨h1, r, h2, h3⟩ := name_of hn he
          have HE : Hid (nmR nm = some r ∧ r.1 = (k : Int)) := ⟨h1.trans h2, h3⟩
          rw [he] at HC
          clear h1 h2 h3 he HD
          go_wp2_with (go_at_call 12; refine (HC.out _).mono ?_; rintro e w1 ⟨rfl, rfl⟩)
          go_ret2
          exact ⟨by rw [HE.out.1]; show _ = Ending.returned (.tuple #[.int .u32 r.1, _]); rw [HE.out.2]; rfl, HB.out⟩
        · have HJ2 : Hid (∀ j : Nat, j < k + 1 → nm = [] ∨ (rwV (opR j)).2.1 ≠ nm) := fun j hj => by
            by_cases e : j < k
            · exact HJ.out j e
            · obtain rfl : j = k := by omega
              exact .inr he
          generalize (rwV (opR k)).2.1 = b at *
          have q2 : (b == nm) = false := by simpa using he
          clear HD
          go_wp2_with (go_at_call 12; refine (HC.out _).mono ?_; rintro e w1 ⟨rfl, rfl⟩)
          go_roundw
          case rel => exact ⟨k + 1, by omega, int_eq (by omega), HJ2, HB⟩
          case measure => simp [intOf]; omega
    · obtain rfl : k = 570 := by omega
      have HN : Hid (nmR nm = none) := by
        cases hr : nmR nm with
        | none => exact rfl
        | some r =>
          exfalso
          obtain ⟨hm, he⟩ := nmR_mem hr
          obtain ⟨h1, h2, ⟨h3, h4⟩, h5, _⟩ := tab_row hm
          have := HJ.out r.1.toNat (by omega)
          rw [show ((r.1.toNat : Nat) : Int) = r.1 by omega, h1] at this
          rcases this with h | h
          · exact h5 (he.trans h)
          · exact h he
      have d1 : ¬ ((570 : Nat) : Int) ≤ 569 := by omega
      go_wp2
      go_ret2
      exact ⟨by rw [HN.out]; rfl, HB.out⟩
end Go.Proofs.Ytepknlmmccfnmaa
