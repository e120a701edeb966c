/- The document's Signature and Name: the same table. -/
import Derived.Test.YtepknlmmccfnmaaC11c
namespace Go.Proofs.Ytepknlmmccfnmaa
open Go.RowKit
set_option maxHeartbeats 1000000
set_option maxRecDepth 100000
set_option linter.unusedVariables false

def noOrc : Orc := fun _ _ => none
theorem noOrc_ok (P : Program) : OrcOk P noOrc := fun f args v h => by cases h
def rdSig (e : Exit) (a : Act) : Option (List UInt8 × Bool) := match e, (a.tmps[2]? : Option Value), (a.tmps[3]? : Option Value), a.defers with
  | .ret, some (.string s), some (.bool b), [] => some (s.data.toList, b)
  | _, _, _, _ => none
def rdNm (e : Exit) (a : Act) : Option (List UInt8) := match e, (a.tmps[2]? : Option Value), a.defers with
  | .ret, some (.string s), [] => some s.data.toList
  | _, _, _ => none
theorem rdSig_some {e : Exit} {a : Act} {x : List UInt8 × Bool} (h : rdSig e a = some x) : e = .ret ∧ a.tmps[2]? = some (strV x.1) ∧ a.tmps[3]? = some (.bool x.2) ∧ a.defers = [] := by
  unfold rdSig at h
  split at h
  · rename_i s b h2 h3 h4
    simp only [Option.some.injEq] at h
    subst h
    exact ⟨rfl, h2, h3, h4⟩
  · cases h
theorem rdNm_some {e : Exit} {a : Act} {x : List UInt8} (h : rdNm e a = some x) : e = .ret ∧ a.tmps[2]? = some (strV x) ∧ a.defers = [] := by
  unfold rdNm at h
  split at h
  · rename_i s h2 h4
    simp only [Option.some.injEq] at h
    subst h
    exact ⟨rfl, h2, h4⟩
  · cases h
/-- two lists of answers that say the same of all numbers that they name say the same of all -/
theorem tab_else (op : Int) (h : ∀ r ∈ tab, op ≠ r.1) : opR op = none := by
  unfold opR
  rw [List.find?_eq_none]
  intro r hr
  have := h r hr
  simp only [beq_iff_eq]
  exact fun e => this e.symm
def sigL : List (Int × (List UInt8 × Bool)) := [(0, ([], true)), (82, ([], true)), (288, ([], true)), (290, ([], true)), (297, ([], true)), (16, ([76, 76, 83], true)), (17, ([76, 76, 83], true)), (18, ([76, 76, 83], true)), (19, ([76, 76, 83], true)), (20, ([76, 76, 83], true)), (24, ([76, 76, 83], true)), (25, ([76, 76, 83], true)), (26, ([76, 76, 83], true)), (28, ([76, 76, 83], true)), (29, ([76, 76, 83], true)), (30, ([76, 76, 83], true)), (48, ([76, 76, 83], true)), (72, ([76, 76, 83], true)), (73, ([76, 76, 83], true)), (74, ([76, 76, 83], true)), (75, ([76, 76, 83], true)), (256, ([76, 76, 83], true)), (304, ([76, 76, 83], true)), (353, ([76, 76, 83], true)), (416, ([76, 76, 83], true)), (417, ([76, 76, 83], true)), (418, ([76, 76, 83], true)), (419, ([76, 76, 83], true)), (513, ([76, 76, 83], true)), (514, ([76, 76, 83], true)), (516, ([76, 76, 83], true)), (21, ([76, 83], true)), (27, ([76, 83], true)), (64, ([76, 83], true)), (65, ([76, 83], true)), (66, ([76, 83], true)), (68, ([76, 83], true)), (69, ([76, 83], true)), (81, ([76, 83], true)), (259, ([76, 83], true)), (272, ([76, 83], true)), (291, ([76, 83], true)), (292, ([76, 83], true)), (352, ([76, 83], true)), (376, ([76, 83], true)), (400, ([76, 83], true)), (401, ([76, 83], true)), (402, ([76, 83], true)), (408, ([76, 83], true)), (409, ([76, 83], true)), (424, ([76, 83], true)), (32, ([76], true)), (49, ([76], true)), (84, ([76], true)), (112, ([76], true)), (113, ([76], true)), (114, ([76], true)), (115, ([76], true)), (257, ([76], true)), (260, ([76], true)), (273, ([76], true)), (321, ([76], true)), (377, ([76], true)), (34, ([76, 76], true)), (35, ([76, 76], true)), (51, ([76, 76], true)), (52, ([76, 76], true)), (83, ([76, 76], true)), (295, ([76, 76], true)), (329, ([76, 76], true)), (368, ([76, 76], true)), (384, ([76, 76], true)), (385, ([76, 76], true)), (456, ([76, 76], true)), (457, ([76, 76], true)), (36, ([76, 76, 76], true)), (37, ([76, 76, 76], true)), (38, ([76, 76, 76], true)), (39, ([76, 76, 76], true)), (40, ([76, 76, 76], true)), (41, ([76, 76, 76], true)), (42, ([76, 76, 76], true)), (43, ([76, 76, 76], true)), (44, ([76, 76, 76], true)), (45, ([76, 76, 76], true)), (76, ([76, 76, 76], true)), (77, ([76, 76, 76], true)), (78, ([76, 76, 76], true)), (79, ([76, 76, 76], true)), (369, ([76, 76, 76], true)), (450, ([76, 76, 76], true)), (451, ([76, 76, 76], true)), (452, ([76, 76, 76], true)), (453, ([76, 76, 76], true)), (568, ([76, 76, 76], true)), (569, ([76, 76, 76], true)), (50, ([83, 76], true)), (80, ([83], true)), (258, ([83], true)), (289, ([83], true)), (293, ([83], true)), (294, ([83], true)), (296, ([83], true)), (320, ([83], true)), (328, ([83, 83], true)), (336, ([76, 76, 76, 76, 76, 76, 76, 83], true)), (337, ([76, 76, 76, 76, 76, 76, 76, 83], true)), (338, ([76, 76, 76, 76, 76, 76, 83], true)), (354, ([76, 76, 76, 83], true)), (355, ([76, 76, 76, 76, 83], true)), (420, ([76, 76, 83, 83], true)), (520, ([76, 76, 83, 83], true)), (521, ([76, 76, 83, 83], true)), (536, ([76, 76, 83, 83], true)), (448, ([76, 76, 76, 76], true)), (449, ([76, 76, 76, 76], true)), (512, ([76, 83, 83], true)), (515, ([76, 83, 83], true)), (528, ([76, 76, 76, 76, 83, 83], true)), (529, ([76, 76, 76, 76, 83, 83], true)), (530, ([76, 76, 76, 76, 83, 83], true)), (531, ([76, 76, 76, 76, 83, 83], true)), (532, ([76, 76, 76, 76, 83, 83], true)), (533, ([76, 76, 76, 76, 83, 83], true)), (560, ([76, 76, 76, 76, 76, 76, 76], true)), (561, ([76, 76, 76, 76, 76, 76, 76], true)), (562, ([76, 76, 76, 76, 76], true)), (563, ([76, 76, 76, 76, 76], true)), (564, ([76, 76, 76, 76, 76], true)), (565, ([76, 76, 76, 76, 76], true))]
theorem sig_keys : (sigL.all fun p => tab.any fun r => r.1 == p.1) = true := by kernel_rfl
theorem sig_tab : (tab.all fun r => decide (lookV r.1 (([] : List UInt8), false) sigL = ((rwV (opR r.1)).2.2, (opR r.1).isSome))) = true := by kernel_rfl
theorem sig_eq (op : Int) : lookV op (([] : List UInt8), false) sigL = ((rwV (opR op)).2.2, (opR op).isSome) := by
  by_cases h : ∃ r ∈ tab, op = r.1
  · obtain ⟨r, hr, rfl⟩ := h
    exact of_decide_eq_true (List.all_eq_true.1 sig_tab r hr)
  · have h' : ∀ r ∈ tab, op ≠ r.1 := fun r hr e => h ⟨r, hr, e⟩
    rw [tab_else op h']
    refine look_else op _ _ fun p hp e => ?_
    have := List.all_eq_true.1 sig_keys p hp
    rw [List.any_eq_true] at this
    obtain ⟨r, hr, he⟩ := this
    exact h' r hr (by rw [e]; simpa using (beq_iff_eq.1 he).symm)
theorem dsig_tree (op : Int) : ∃ c, Try.f8.body = some c ∧ (trC noOrc c { tmps := #[.int .u32 op] ++ Array.replicate (Try.f8.ntmps - 1) undef, defers := [] } .leaf).view rdSig = chainV op ([], false) sigL := ⟨_, rfl, by kernel_rfl⟩
theorem dsig_any (op : Int) (w : World) :
    Calls Try.prog 8 #[.int .u32 op] w fun e w' => e = .returned (.tuple #[strV (rwV (opR op)).2.2, .bool (opR op).isSome]) ∧ w' = w := by
  obtain ⟨c, hb, ht⟩ := dsig_tree op
  refine switch_calls (noOrc_ok _) Try.func8 hb rdSig op _ sigL ht fun e a x hx he => ?_
  obtain ⟨rfl, h2, h3, h4⟩ := rdSig_some hx
  rw [sig_eq] at he
  subst he
  refine ⟨h4, .tuple #[strV (rwV (opR op)).2.2, .bool (opR op).isSome], ?_, rfl, rfl⟩
  rw [results_tmp2 Try.results8]
  simp [h2, h3]
def namesL : List (Int × List UInt8) := [(0, [110, 111, 112]), (16, [97, 100, 100]), (17, [115, 117, 98]), (18, [109, 117, 108]), (19, [100, 105, 118]), (20, [109, 111, 100]), (21, [110, 101, 103]), (24, [98, 105, 116, 97, 110, 100]), (25, [98, 105, 116, 111, 114]), (26, [98, 105, 116, 120, 111, 114]), (27, [98, 105, 116, 110, 111, 116]), (28, [115, 104, 105, 102, 116, 108]), (29, [115, 115, 104, 105, 102, 116, 114]), (30, [117, 115, 104, 105, 102, 116, 114]), (32, [106, 117, 109, 112]), (34, [106, 122]), (35, [106, 110, 122]), (36, [106, 101, 113]), (37, [106, 110, 101]), (38, [106, 108, 116]), (39, [106, 103, 101]), (40, [106, 103, 116]), (41, [106, 108, 101]), (42, [106, 108, 116, 117]), (43, [106, 103, 101, 117]), (44, [106, 103, 116, 117]), (45, [106, 108, 101, 117]), (48, [99, 97, 108, 108]), (49, [114, 101, 116, 117, 114, 110]), (50, [99, 97, 116, 99, 104]), (51, [116, 104, 114, 111, 119]), (52, [116, 97, 105, 108, 99, 97, 108, 108]), (64, [99, 111, 112, 121]), (65, [99, 111, 112, 121, 115]), (66, [99, 111, 112, 121, 98]), (68, [115, 101, 120, 115])]
theorem dnames_tree (op : Int) : ∃ c, Try.f20.body = some c ∧ (trC noOrc c { tmps := #[.int .u32 op] ++ Array.replicate (Try.f20.ntmps - 1) undef, defers := [] } .leaf).view rdNm = chainV op [] namesL := ⟨_, rfl, by kernel_rfl⟩
theorem dnames_any (op : Int) (w : World) :
    Calls Try.prog 20 #[.int .u32 op] w fun e w' => e = .returned (strV (lookV op [] namesL)) ∧ w' = w := by
  obtain ⟨c, hb, ht⟩ := dnames_tree op
  refine switch_calls (noOrc_ok _) Try.func20 hb rdNm op _ namesL ht fun e a x hx he => ?_
  obtain ⟨rfl, h2, h4⟩ := rdNm_some hx
  subst he
  refine ⟨h4, _, results_tmp Try.results20 _ _ _, ?_, rfl⟩
  simp [h2]
def othersL : List (Int × List UInt8) := [(69, [115, 101, 120, 98]), (72, [97, 108, 111, 97, 100]), (73, [97, 108, 111, 97, 100, 115]), (74, [97, 108, 111, 97, 100, 98]), (75, [97, 108, 111, 97, 100, 98, 105, 116]), (76, [97, 115, 116, 111, 114, 101]), (77, [97, 115, 116, 111, 114, 101, 115]), (78, [97, 115, 116, 111, 114, 101, 98]), (79, [97, 115, 116, 111, 114, 101, 98, 105, 116]), (80, [115, 116, 107, 99, 111, 117, 110, 116]), (81, [115, 116, 107, 112, 101, 101, 107]), (82, [115, 116, 107, 115, 119, 97, 112]), (83, [115, 116, 107, 114, 111, 108, 108]), (84, [115, 116, 107, 99, 111, 112, 121]), (112, [115, 116, 114, 101, 97, 109, 99, 104, 97, 114]), (113, [115, 116, 114, 101, 97, 109, 110, 117, 109]), (114, [115, 116, 114, 101, 97, 109, 115, 116, 114]), (115, [115, 116, 114, 101, 97, 109, 117, 110, 105, 99, 104, 97, 114]), (256, [103, 101, 115, 116, 97, 108, 116]), (257, [100, 101, 98, 117, 103, 116, 114, 97, 112]), (258, [103, 101, 116, 109, 101, 109, 115, 105, 122, 101]), (259, [115, 101, 116, 109, 101, 109, 115, 105, 122, 101]), (260, [106, 117, 109, 112, 97, 98, 115]), (272, [114, 97, 110, 100, 111, 109]), (273, [115, 101, 116, 114, 97, 110, 100, 111, 109]), (288, [113, 117, 105, 116]), (289, [118, 101, 114, 105, 102, 121]), (290, [114, 101, 115, 116, 97, 114, 116]), (291, [115, 97, 118, 101]), (292, [114, 101, 115, 116, 111, 114, 101]), (293, [115, 97, 118, 101, 117, 110, 100, 111]), (294, [114, 101, 115, 116, 111, 114, 101, 117, 110, 100, 111]), (295, [112, 114, 111, 116, 101, 99, 116]), (296, [104, 97, 115, 117, 110, 100, 111]), (297, [100, 105, 115, 99, 97, 114, 100, 117, 110, 100, 111]), (304, [103, 108, 107])]
theorem dothers_tree (op : Int) : ∃ c, Try.f21.body = some c ∧ (trC noOrc c { tmps := #[.int .u32 op] ++ Array.replicate (Try.f21.ntmps - 1) undef, defers := [] } .leaf).view rdNm = chainV op [] othersL := ⟨_, rfl, by kernel_rfl⟩
theorem dothers_any (op : Int) (w : World) :
    Calls Try.prog 21 #[.int .u32 op] w fun e w' => e = .returned (strV (lookV op [] othersL)) ∧ w' = w := by
  obtain ⟨c, hb, ht⟩ := dothers_tree op
  refine switch_calls (noOrc_ok _) Try.func21 hb rdNm op _ othersL ht fun e a x hx he => ?_
  obtain ⟨rfl, h2, h4⟩ := rdNm_some hx
  subst he
  refine ⟨h4, _, results_tmp Try.results21 _ _ _, ?_, rfl⟩
  simp [h2]
def lastL : List (Int × List UInt8) := [(512, [110, 117, 109, 116, 111, 100]), (513, [100, 116, 111, 110, 117, 109, 122]), (514, [100, 116, 111, 110, 117, 109, 110]), (515, [102, 116, 111, 100]), (516, [100, 116, 111, 102]), (520, [100, 99, 101, 105, 108]), (521, [100, 102, 108, 111, 111, 114]), (528, [100, 97, 100, 100]), (529, [100, 115, 117, 98]), (530, [100, 109, 117, 108]), (531, [100, 100, 105, 118]), (532, [100, 109, 111, 100, 114]), (533, [100, 109, 111, 100, 113]), (536, [100, 115, 113, 114, 116]), (560, [106, 100, 101, 113]), (561, [106, 100, 110, 101]), (562, [106, 100, 108, 116]), (563, [106, 100, 108, 101]), (564, [106, 100, 103, 116]), (565, [106, 100, 103, 101]), (568, [106, 100, 105, 115, 110, 97, 110]), (569, [106, 100, 105, 115, 105, 110, 102])]
theorem dlast_tree (op : Int) : ∃ c, Try.f29.body = some c ∧ (trC noOrc c { tmps := #[.int .u32 op] ++ Array.replicate (Try.f29.ntmps - 1) undef, defers := [] } .leaf).view rdNm = chainV op [] lastL := ⟨_, rfl, by kernel_rfl⟩
theorem dlast_any (op : Int) (w : World) :
    Calls Try.prog 29 #[.int .u32 op] w fun e w' => e = .returned (strV (lookV op [] lastL)) ∧ w' = w := by
  obtain ⟨c, hb, ht⟩ := dlast_tree op
  refine switch_calls (noOrc_ok _) Try.func29 hb rdNm op _ lastL ht fun e a x hx he => ?_
  obtain ⟨rfl, h2, h4⟩ := rdNm_some hx
  subst he
  refine ⟨h4, _, results_tmp Try.results29 _ _ _, ?_, rfl⟩
  simp [h2]
def restL : List (Int × List UInt8) := [(320, [103, 101, 116, 115, 116, 114, 105, 110, 103, 116, 98, 108]), (321, [115, 101, 116, 115, 116, 114, 105, 110, 103, 116, 98, 108]), (328, [103, 101, 116, 105, 111, 115, 121, 115]), (329, [115, 101, 116, 105, 111, 115, 121, 115]), (336, [108, 105, 110, 101, 97, 114, 115, 101, 97, 114, 99, 104]), (337, [98, 105, 110, 97, 114, 121, 115, 101, 97, 114, 99, 104]), (338, [108, 105, 110, 107, 101, 100, 115, 101, 97, 114, 99, 104]), (352, [99, 97, 108, 108, 102]), (353, [99, 97, 108, 108, 102, 105]), (354, [99, 97, 108, 108, 102, 105, 105]), (355, [99, 97, 108, 108, 102, 105, 105, 105]), (368, [109, 122, 101, 114, 111]), (369, [109, 99, 111, 112, 121]), (376, [109, 97, 108, 108, 111, 99]), (377, [109, 102, 114, 101, 101]), (384, [97, 99, 99, 101, 108, 102, 117, 110, 99]), (385, [97, 99, 99, 101, 108, 112, 97, 114, 97, 109]), (400, [110, 117, 109, 116, 111, 102]), (401, [102, 116, 111, 110, 117, 109, 122]), (402, [102, 116, 111, 110, 117, 109, 110]), (408, [99, 101, 105, 108]), (409, [102, 108, 111, 111, 114]), (416, [102, 97, 100, 100]), (417, [102, 115, 117, 98]), (418, [102, 109, 117, 108]), (419, [102, 100, 105, 118]), (420, [102, 109, 111, 100]), (424, [115, 113, 114, 116]), (448, [106, 102, 101, 113]), (449, [106, 102, 110, 101]), (450, [106, 102, 108, 116]), (451, [106, 102, 108, 101]), (452, [106, 102, 103, 116]), (453, [106, 102, 103, 101]), (456, [106, 105, 115, 110, 97, 110]), (457, [106, 105, 115, 105, 110, 102])]
def lastOrc : Orc := fun f args => if f = 29 ∧ args.toList.length = 1 then (match (args[0]? : Option Value) with
  | some (.int .u32 x) => some (strV (lookV x [] lastL))
  | _ => none) else none
theorem drest_tree (op : Int) : ∃ c, Try.f22.body = some c ∧ (trC lastOrc c { tmps := #[.int .u32 op] ++ Array.replicate (Try.f22.ntmps - 1) undef, defers := [] } .leaf).view rdNm = chainV op (lookV op [] lastL) restL := ⟨_, rfl, by kernel_rfl⟩
theorem lastOrc_ok : OrcOk Try.prog lastOrc := by
  intro f args v h w
  unfold lastOrc at h
  split at h
  · rename_i hf
    obtain ⟨rfl, hl⟩ := hf
    split at h
    · rename_i x hx
      obtain rfl : args = #[.int .u32 x] := by
        obtain ⟨l⟩ := args
        match l, hl with
        | [y], _ => simp at hx; rw [hx]
      simp only [Option.some.injEq] at h
      subst h
      exact ⟨by kernel_rfl, dlast_any x w⟩
    · cases h
  · cases h
theorem drest_any (op : Int) (w : World) :
    Calls Try.prog 22 #[.int .u32 op] w fun e w' => e = .returned (strV (lookV op (lookV op [] lastL) restL)) ∧ w' = w := by
  obtain ⟨c, hb, ht⟩ := drest_tree op
  refine switch_calls lastOrc_ok Try.func22 hb rdNm op _ restL ht fun e a x hx he => ?_
  obtain ⟨rfl, h2, h4⟩ := rdNm_some hx
  subst he
  refine ⟨h4, _, results_tmp Try.results22 _ _ _, ?_, rfl⟩
  simp [h2]
end Go.Proofs.Ytepknlmmccfnmaa
