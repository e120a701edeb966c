/- The table of the instructions, as a list; package code's instructions answers it. -/
import Derived.Test.YtpkfmccnjandoaaC11a
import Derived.Deep.WholeRow
namespace Go.Proofs.Ytpkfmccnjandoaa
open Go.RowKit
set_option maxHeartbeats 1000000
set_option maxRecDepth 100000
set_option linter.unusedVariables false

/-- number, name, letters -/
def tab : List (Int × List UInt8 × List UInt8) := [
  (0, [110, 111, 112], []),
  (16, [97, 100, 100], [76, 76, 83]),
  (17, [115, 117, 98], [76, 76, 83]),
  (18, [109, 117, 108], [76, 76, 83]),
  (19, [100, 105, 118], [76, 76, 83]),
  (20, [109, 111, 100], [76, 76, 83]),
  (21, [110, 101, 103], [76, 83]),
  (24, [98, 105, 116, 97, 110, 100], [76, 76, 83]),
  (25, [98, 105, 116, 111, 114], [76, 76, 83]),
  (26, [98, 105, 116, 120, 111, 114], [76, 76, 83]),
  (27, [98, 105, 116, 110, 111, 116], [76, 83]),
  (28, [115, 104, 105, 102, 116, 108], [76, 76, 83]),
  (29, [115, 115, 104, 105, 102, 116, 114], [76, 76, 83]),
  (30, [117, 115, 104, 105, 102, 116, 114], [76, 76, 83]),
  (32, [106, 117, 109, 112], [76]),
  (34, [106, 122], [76, 76]),
  (35, [106, 110, 122], [76, 76]),
  (36, [106, 101, 113], [76, 76, 76]),
  (37, [106, 110, 101], [76, 76, 76]),
  (38, [106, 108, 116], [76, 76, 76]),
  (39, [106, 103, 101], [76, 76, 76]),
  (40, [106, 103, 116], [76, 76, 76]),
  (41, [106, 108, 101], [76, 76, 76]),
  (42, [106, 108, 116, 117], [76, 76, 76]),
  (43, [106, 103, 101, 117], [76, 76, 76]),
  (44, [106, 103, 116, 117], [76, 76, 76]),
  (45, [106, 108, 101, 117], [76, 76, 76]),
  (48, [99, 97, 108, 108], [76, 76, 83]),
  (49, [114, 101, 116, 117, 114, 110], [76]),
  (50, [99, 97, 116, 99, 104], [83, 76]),
  (51, [116, 104, 114, 111, 119], [76, 76]),
  (52, [116, 97, 105, 108, 99, 97, 108, 108], [76, 76]),
  (64, [99, 111, 112, 121], [76, 83]),
  (65, [99, 111, 112, 121, 115], [76, 83]),
  (66, [99, 111, 112, 121, 98], [76, 83]),
  (68, [115, 101, 120, 115], [76, 83]),
  (69, [115, 101, 120, 98], [76, 83]),
  (72, [97, 108, 111, 97, 100], [76, 76, 83]),
  (73, [97, 108, 111, 97, 100, 115], [76, 76, 83]),
  (74, [97, 108, 111, 97, 100, 98], [76, 76, 83]),
  (75, [97, 108, 111, 97, 100, 98, 105, 116], [76, 76, 83]),
  (76, [97, 115, 116, 111, 114, 101], [76, 76, 76]),
  (77, [97, 115, 116, 111, 114, 101, 115], [76, 76, 76]),
  (78, [97, 115, 116, 111, 114, 101, 98], [76, 76, 76]),
  (79, [97, 115, 116, 111, 114, 101, 98, 105, 116], [76, 76, 76]),
  (80, [115, 116, 107, 99, 111, 117, 110, 116], [83]),
  (81, [115, 116, 107, 112, 101, 101, 107], [76, 83]),
  (82, [115, 116, 107, 115, 119, 97, 112], []),
  (83, [115, 116, 107, 114, 111, 108, 108], [76, 76]),
  (84, [115, 116, 107, 99, 111, 112, 121], [76]),
  (112, [115, 116, 114, 101, 97, 109, 99, 104, 97, 114], [76]),
  (113, [115, 116, 114, 101, 97, 109, 110, 117, 109], [76]),
  (114, [115, 116, 114, 101, 97, 109, 115, 116, 114], [76]),
  (115, [115, 116, 114, 101, 97, 109, 117, 110, 105, 99, 104, 97, 114], [76]),
  (256, [103, 101, 115, 116, 97, 108, 116], [76, 76, 83]),
  (257, [100, 101, 98, 117, 103, 116, 114, 97, 112], [76]),
  (258, [103, 101, 116, 109, 101, 109, 115, 105, 122, 101], [83]),
  (259, [115, 101, 116, 109, 101, 109, 115, 105, 122, 101], [76, 83]),
  (260, [106, 117, 109, 112, 97, 98, 115], [76]),
  (272, [114, 97, 110, 100, 111, 109], [76, 83]),
  (273, [115, 101, 116, 114, 97, 110, 100, 111, 109], [76]),
  (288, [113, 117, 105, 116], []),
  (289, [118, 101, 114, 105, 102, 121], [83]),
  (290, [114, 101, 115, 116, 97, 114, 116], []),
  (291, [115, 97, 118, 101], [76, 83]),
  (292, [114, 101, 115, 116, 111, 114, 101], [76, 83]),
  (293, [115, 97, 118, 101, 117, 110, 100, 111], [83]),
  (294, [114, 101, 115, 116, 111, 114, 101, 117, 110, 100, 111], [83]),
  (295, [112, 114, 111, 116, 101, 99, 116], [76, 76]),
  (296, [104, 97, 115, 117, 110, 100, 111], [83]),
  (297, [100, 105, 115, 99, 97, 114, 100, 117, 110, 100, 111], []),
  (304, [103, 108, 107], [76, 76, 83]),
  (320, [103, 101, 116, 115, 116, 114, 105, 110, 103, 116, 98, 108], [83]),
  (321, [115, 101, 116, 115, 116, 114, 105, 110, 103, 116, 98, 108], [76]),
  (328, [103, 101, 116, 105, 111, 115, 121, 115], [83, 83]),
  (329, [115, 101, 116, 105, 111, 115, 121, 115], [76, 76]),
  (336, [108, 105, 110, 101, 97, 114, 115, 101, 97, 114, 99, 104], [76, 76, 76, 76, 76, 76, 76, 83]),
  (337, [98, 105, 110, 97, 114, 121, 115, 101, 97, 114, 99, 104], [76, 76, 76, 76, 76, 76, 76, 83]),
  (338, [108, 105, 110, 107, 101, 100, 115, 101, 97, 114, 99, 104], [76, 76, 76, 76, 76, 76, 83]),
  (352, [99, 97, 108, 108, 102], [76, 83]),
  (353, [99, 97, 108, 108, 102, 105], [76, 76, 83]),
  (354, [99, 97, 108, 108, 102, 105, 105], [76, 76, 76, 83]),
  (355, [99, 97, 108, 108, 102, 105, 105, 105], [76, 76, 76, 76, 83]),
  (368, [109, 122, 101, 114, 111], [76, 76]),
  (369, [109, 99, 111, 112, 121], [76, 76, 76]),
  (376, [109, 97, 108, 108, 111, 99], [76, 83]),
  (377, [109, 102, 114, 101, 101], [76]),
  (384, [97, 99, 99, 101, 108, 102, 117, 110, 99], [76, 76]),
  (385, [97, 99, 99, 101, 108, 112, 97, 114, 97, 109], [76, 76]),
  (400, [110, 117, 109, 116, 111, 102], [76, 83]),
  (401, [102, 116, 111, 110, 117, 109, 122], [76, 83]),
  (402, [102, 116, 111, 110, 117, 109, 110], [76, 83]),
  (408, [99, 101, 105, 108], [76, 83]),
  (409, [102, 108, 111, 111, 114], [76, 83]),
  (416, [102, 97, 100, 100], [76, 76, 83]),
  (417, [102, 115, 117, 98], [76, 76, 83]),
  (418, [102, 109, 117, 108], [76, 76, 83]),
  (419, [102, 100, 105, 118], [76, 76, 83]),
  (420, [102, 109, 111, 100], [76, 76, 83, 83]),
  (424, [115, 113, 114, 116], [76, 83]),
  (448, [106, 102, 101, 113], [76, 76, 76, 76]),
  (449, [106, 102, 110, 101], [76, 76, 76, 76]),
  (450, [106, 102, 108, 116], [76, 76, 76]),
  (451, [106, 102, 108, 101], [76, 76, 76]),
  (452, [106, 102, 103, 116], [76, 76, 76]),
  (453, [106, 102, 103, 101], [76, 76, 76]),
  (456, [106, 105, 115, 110, 97, 110], [76, 76]),
  (457, [106, 105, 115, 105, 110, 102], [76, 76]),
  (512, [110, 117, 109, 116, 111, 100], [76, 83, 83]),
  (513, [100, 116, 111, 110, 117, 109, 122], [76, 76, 83]),
  (514, [100, 116, 111, 110, 117, 109, 110], [76, 76, 83]),
  (515, [102, 116, 111, 100], [76, 83, 83]),
  (516, [100, 116, 111, 102], [76, 76, 83]),
  (520, [100, 99, 101, 105, 108], [76, 76, 83, 83]),
  (521, [100, 102, 108, 111, 111, 114], [76, 76, 83, 83]),
  (528, [100, 97, 100, 100], [76, 76, 76, 76, 83, 83]),
  (529, [100, 115, 117, 98], [76, 76, 76, 76, 83, 83]),
  (530, [100, 109, 117, 108], [76, 76, 76, 76, 83, 83]),
  (531, [100, 100, 105, 118], [76, 76, 76, 76, 83, 83]),
  (532, [100, 109, 111, 100, 114], [76, 76, 76, 76, 83, 83]),
  (533, [100, 109, 111, 100, 113], [76, 76, 76, 76, 83, 83]),
  (536, [100, 115, 113, 114, 116], [76, 76, 83, 83]),
  (560, [106, 100, 101, 113], [76, 76, 76, 76, 76, 76, 76]),
  (561, [106, 100, 110, 101], [76, 76, 76, 76, 76, 76, 76]),
  (562, [106, 100, 108, 116], [76, 76, 76, 76, 76]),
  (563, [106, 100, 108, 101], [76, 76, 76, 76, 76]),
  (564, [106, 100, 103, 116], [76, 76, 76, 76, 76]),
  (565, [106, 100, 103, 101], [76, 76, 76, 76, 76]),
  (568, [106, 100, 105, 115, 110, 97, 110], [76, 76, 76]),
  (569, [106, 100, 105, 115, 105, 110, 102], [76, 76, 76])]
abbrev strV (l : List UInt8) : Value := .string ⟨l.toArray⟩
def rowC (r : Int × List UInt8 × List UInt8) : List Value := [.int .u32 r.1, strV r.2.1, strV r.2.2]
def tabC : Array Value := (tab.flatMap rowC).toArray
def zerC : Array Value := ((List.replicate 130 ((0 : Int), ([] : List UInt8), ([] : List UInt8))).flatMap rowC).toArray

def runB (P : Program) : List Oper → Act → Option Act
  | [], a => some a
  | o :: rest, a => match o.guard, o.op with
    | none, .build t parts => match P.built t (parts.map fun (i, x) => (i, a.eval x)).toList with
      | some cs => runB P rest (a.put o.dst (.agg cs))
      | none => none
    | _, _ => none
theorem runB_sound (P : Program) (ops : Array Oper) (Q : Exit → Act → World → Prop) (w : World) (rest : List Oper) (a' : Act) :
    ∀ (l : List Oper) (a : Act), runB P l a = some a' → wpList P ops Q rest a' w → wpList P ops Q (l ++ rest) a w
  | [], a, h, hr => by simp [runB] at h; subst h; exact hr
  | o :: l, a, h, hr => by
    unfold runB at h
    split at h
    · rename_i t parts hg ho
      split at h
      · rename_i cs hc
        refine wpList_build hg t parts ho (by rw [hc]; rfl) ?_
        rw [hc]
        exact runB_sound P ops Q w rest a' l _ h hr
      · cases h
    · cases h

theorem info_tab : (Try.prog.info? 98).map (fun i => (i.zero, i.size)) = some (some (.agg zerC), 390) := by kernel_rfl
def opsOf (b : Option Code) : List Oper := match b with
  | some (.seq _ (.seq (.region _ ops _) _)) => ops.toList
  | _ => []
def insAct (x : Value) : Act := ⟨(x :: List.replicate 131 undef).toArray, []⟩
theorem ins_run (x : Value) : ((runB Try.prog ((opsOf Try.f57.body).take 131) (insAct x)).map fun a => (a.tmps[0]?, a.tmps[131]?, a.defers)) = some (some x, some (.agg tabC), []) := by kernel_rfl
theorem ins_drop : (opsOf Try.f57.body).drop 131 = [(opsOf Try.f57.body).getD 131 default] := by kernel_rfl
theorem ins_op : ((opsOf Try.f57.body).getD 131 default).op = .store 98 (.tmp 0) (.tmp 131) := by kernel_rfl
theorem ins_guard : ((opsOf Try.f57.body).getD 131 default).guard = none := by kernel_rfl
theorem ins_dst : ((opsOf Try.f57.body).getD 131 default).dst = none := by kernel_rfl
theorem ins_code : ∃ id id2 ops, Try.f57.body = some (.seq (.region id [⟨some 0, .alloc 98, 0, "table.go:14", #[], none⟩].toArray false) (.seq (.region id2 ops false) .ret)) ∧ ops.toList = opsOf Try.f57.body := ⟨0, 1, (opsOf Try.f57.body).toArray, by kernel_rfl, by simp⟩
theorem zerC_size : zerC.size = 390 := by kernel_rfl
theorem tabC_size : tabC.size = 390 := by kernel_rfl
theorem tabC_one : tabC.all (·.oneCell') = true := by kernel_rfl
theorem und_tab : Try.prog.underlying 98 = some (.array 130 78) := by kernel_rfl
theorem kins_any (w : World) :
    Calls Try.prog 57 #[] w fun e w' => e = .returned (.agg tabC) ∧ w' = w.alloc (.cells tabC 98) := by
  obtain ⟨id, id2, ops, hb, hops⟩ := ins_code
  obtain ⟨hz, hsz⟩ := zero_of_info info_tab
  refine calls_of_wp Try.func57 hb ?_
  refine wp_seq (wp_region_list ?_)
  refine wpList_plain rfl fun K hK => ?_
  unfold Oper.wp
  have hal : (Instr.alloc 98 true (.tuple #[])).run Try.prog w = .ok (.pointer (some ⟨w.heap.size, 0, none⟩)) (w.alloc (.cells zerC 98)) := by
    simp [Instr.alloc, hz, newVar, newRow, Value.cells, newObj]
    rfl
  simp only [execOp, Sem.run_bind, hal, Result.andThen_ok, Oper.upon, Sem.run_pure]
  refine hK _ _ ?_
  show Code.wp _ _ _ _ _
  refine wp_seq (wp_region_list ?_)
  have hr := ins_run (.pointer (some ⟨w.heap.size, 0, none⟩))
  cases hrb : runB Try.prog ((opsOf Try.f57.body).take 131) (insAct (.pointer (some ⟨w.heap.size, 0, none⟩))) with
  | none => rw [hrb] at hr; cases hr
  | some a' =>
    rw [hrb] at hr
    simp only [Option.map_some, Option.some.injEq, Prod.mk.injEq] at hr
    obtain ⟨h0, h1, hd⟩ := hr
    rw [hops, ← List.take_append_drop 131 (opsOf Try.f57.body)]
    refine runB_sound Try.prog ops _ _ _ a' _ _ (by exact hrb) ?_
    rw [ins_drop]
    refine wpList_plain ins_guard fun K2 hK2 => ?_
    have e0 : a'.eval (.tmp 0) = .pointer (some ⟨w.heap.size, 0, none⟩) := by simp [Act.eval, h0]
    have e1 : a'.eval (.tmp 131) = .agg tabC := by simp [Act.eval, h1]
    refine wp_store_row 98 (.tmp 0) (.tmp 131) ins_op w.heap.size tabC e0 e1 98 zerC (heap_alloc_last w _) (by rw [tabC_size]; exact hsz) (by rw [tabC_size, zerC_size]) tabC_one ?_
    rw [World.setRow_alloc_new, ins_dst]
    refine hK2 _ _ ?_
    refine wpList_nil ?_
    show Code.wp _ _ _ _ _
    refine wp_ret ?_
    refine ⟨hd, .agg tabC, ?_, rfl, rfl⟩
    have h0' : (Act.put a' none undef).tmps = a'.tmps := rfl
    rw [h0']
    exact results_cell_row Try.results57 _ _ w.heap.size 98 tabC (0, 0) _ (by simp [h0]) (heap_alloc_last w _) und_tab rfl (by rw [tabC_size]; exact hsz)
theorem flat_drop (l : List (Int × List UInt8 × List UInt8)) : ∀ (k : Nat), k < l.length → ((l.flatMap rowC).drop (k * 3)).take 3 = rowC (l.getD k (0, [], [])) := by
  induction l with
  | nil => intro k h; simp at h
  | cons r l ih =>
    intro k h
    cases k with
    | zero => simp [rowC]
    | succ k =>
      have h' : k < l.length := by simpa using h
      have := ih k h'
      rw [List.flatMap_cons, show (k + 1) * 3 = 3 + k * 3 by omega, ← List.drop_drop]
      have e : (rowC r ++ l.flatMap rowC).drop 3 = l.flatMap rowC := by simp [rowC]
      rw [e, this, List.getD_cons_succ]
theorem tab_len : tab.length = 130 := by kernel_rfl
theorem info_row : (Try.prog.info? 78).map (·.size) = some 3 := by kernel_rfl
theorem und_row : ∃ fs, Try.prog.underlying 78 = some (.struct fs) := ⟨_, Try.underlying78⟩
theorem run_index_tab (k : Nat) (hk : k < 130) (w : World) : (Instr.index 98 (.agg tabC) (.int .i64 k)).run Try.prog w = .ok (.agg #[.int .u32 (tab.getD k (0, [], [])).1, strV (tab.getD k (0, [], [])).2.1, strV (tab.getD k (0, [], [])).2.2]) w := by
  obtain ⟨fs, hu⟩ := und_row
  have hs : ∀ w, (sizeOf 78).run Try.prog w = .ok 3 w := fun w => by
    cases hi : Try.prog.info? 78 with
    | none => have := info_row; rw [hi] at this; cases this
    | some i =>
      have := info_row
      rw [hi] at this
      simp at this
      simp [sizeOf, typeInfo, hi, this]
  have hag : ∀ w, (isAgg 78).run Try.prog w = .ok true w := fun w => by simp [isAgg, run_underlying hu]
  have hx : tabC.extract (k * 3) (k * 3 + 3) = #[.int .u32 (tab.getD k (0, [], [])).1, strV (tab.getD k (0, [], [])).2.1, strV (tab.getD k (0, [], [])).2.2] := by
    have := flat_drop tab k (by rw [tab_len]; exact hk)
    have e : tabC.extract (k * 3) (k * 3 + 3) = (((tab.flatMap rowC).drop (k * 3)).take 3).toArray := by
      unfold tabC
      rw [List.extract_toArray, List.extract_eq_take_drop, show k * 3 + 3 - k * 3 = 3 by omega]
    rw [e, this]
    rfl
  have hc1 : (0 : Int) ≤ (k : Int) ∧ (k : Int) < (130 : Nat) := by omega
  generalize tabC = T at *
  unfold Instr.index
  simp only [asIntOf, Sem.run_bind, Sem.run_pure, Result.andThen_ok, run_underlying und_tab, if_pos hc1, hs, part, hag, if_true, Int.toNat_natCast, hx]
end Go.Proofs.Ytpkfmccnjandoaa
