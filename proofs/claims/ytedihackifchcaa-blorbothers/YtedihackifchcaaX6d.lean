/- What was seen of a container's entries, as a map: its keys and what it holds. -/
import Derived.Test.YtedihackifchcaaX6c
import Derived.Maps.OwnSet
import Derived.Maps.OwnOps
import Derived.Maps.Ext
import Derived.DeepKeys4
import Derived.MapViews
import Derived.Lib.SmallJoins
namespace Go.Proofs.Ytedihackifchcaa
open Go.RowKit Go.Maps
set_option maxHeartbeats 1000000
set_option maxRecDepth 100000
set_option linter.unusedVariables false

theorem laid6 : laidOutB Try.prog = true := by kernel_rfl
theorem nameRow : (88 : TypeId) < Try.prog.types.size := of_decide_eq_true (by kernel_rfl)
theorem nameDeep : Try.prog.keyTypeAt (Try.prog.types.size + 1) 88 = true := by kernel_rfl
theorem nameWide : (match Try.prog.underlying 88 with | some (.array _ _) | some (.struct _) => true | _ => false) = true := by kernel_rfl
theorem nameCells : Try.prog.cellsOf 88 = 2 := by kernel_rfl
theorem nameLaw : Keyed Try.prog 88 := Keyed.of_law (deep_law_laid laid6 (m := 3) (by omega) nameRow (by kernel_rfl) nameWide)
theorem nameFormed (a b : Value) : (Value.agg #[a, b]).formed Try.prog 88 = true := by
  simp [Value.formed, Try.underlying88, nameCells]
/-- a resource's name, as a key -/
def keyL (u : ByteArray) (x : Int) : Lit := (DataW.agg (H := Unit) [.lit (.string u.data.toList), .lit (.int .u32 x)]).asKey
def KeyOk (u : ByteArray) (x : Int) : Prop := u.size ≤ 1000000 ∧ 0 ≤ x ∧ x ≤ 4294967295
theorem keyOf_name (u : ByteArray) (x : Int) (h : KeyOk u x) : keyOf Try.prog 88 (.agg #[.string u, .int .u32 x]) = some (keyL u x) := by
  have hu : u.size ≤ maxLen := by have := h.1; unfold maxLen; omega
  have hw : (Lit.int .u32 x).wf = true := WalkArith.wf_u32 h.2
  have ht : DataW.Trod (H := Unit) (fun _ => ()) Try.prog (default : World) 0 (fun _ => true) true 88 (.agg #[.string u, .int .u32 x]) (.agg [.lit (.string u.data.toList), .lit (.int .u32 x)]) [] :=
    Go.Joins.shut_agg2 (y0 := (.lit (.string u.data.toList), [])) (y1 := (.lit (.int .u32 x), [])) Try.underlying88 (by kernel_rfl) (by kernel_rfl) ⟨1, by simp [DataW.trod, Try.underlying9, hu]⟩ ⟨1, by simp [DataW.trod, Try.underlying24, hw]⟩
  exact (keyOf_asKey nameDeep nameWide (nameFormed _ _) ht).1
theorem keyL_inj {u v : ByteArray} {x y : Int} (hu : KeyOk u x) (hv : KeyOk v y) (h : keyL u x = keyL v y) : u = v ∧ x = y := by
  have h1 := keyOf_name u x hu
  have h2 := keyOf_name v y hv
  rw [← h] at h2
  have := nameLaw.inj h1 h2
  simpa using this
theorem keyL_key {u : ByteArray} {x : Int} (hu : KeyOk u x) : WideAt.IsKeyLit (keyL u x) := nameLaw.key (keyOf_name u x hu)
/-- an entry: its usage, its number, its chunk -/
abbrev En := ByteArray × Int × Nat
def Among (acc : List En) (u : ByteArray) (x : Int) : Prop := ∃ a ∈ acc, a.1 = u ∧ a.2.1 = x
def decAmong (acc : List En) (u : ByteArray) (x : Int) : Decidable (Among acc u x) := by unfold Among; infer_instance
def EnOk (acc : List En) : Prop := ∀ a ∈ acc, KeyOk a.1 a.2.1
/-- a map that holds just these entries -/
def MapIs {H : Type} (D : DataW H) (acc : List En) : Prop := IsMap D ∧ (∀ u x, KeyOk u x → (Maps.has D (keyL u x) = true ↔ Among acc u x)) ∧ ∀ a ∈ acc, ∀ z, D.atKey (keyL a.1 a.2.1) z = .lit (.int .i64 (a.2.2 : Nat))
theorem mapIs_nil {H : Type} : MapIs (H := H) (.map []) [] := ⟨⟨[], rfl⟩, fun u x _ => by simp [Among, Maps.has], fun a ha => by cases ha⟩
theorem MapIs.put {H : Type} {D : DataW H} {acc : List En} (h : MapIs D acc) (hok : EnOk acc) {u : ByteArray} {x : Int} (hk : KeyOk u x) (hn : ¬ Among acc u x) (c : Nat) : MapIs (D.put (keyL u x) (.lit (.int .i64 (c : Nat)))) (acc ++ [(u, x, c)]) := by
  obtain ⟨hm, hh, ha⟩ := h
  refine ⟨hm.put _ _, fun v y hv => ?_, fun a ha' z => ?_⟩
  · by_cases e : v = u ∧ y = x
    · obtain ⟨rfl, rfl⟩ := e
      rw [has_put_same hm (keyL_key hk)]
      exact ⟨fun _ => ⟨(v, y, c), by simp, rfl, rfl⟩, fun _ => rfl⟩
    · rw [has_put_other (fun e' => e (keyL_inj hv hk e')), hh v y hv]
      constructor
      · rintro ⟨a, h1, h2⟩
        exact ⟨a, List.mem_append.2 (.inl h1), h2⟩
      · rintro ⟨a, h1, h2, h3⟩
        rcases List.mem_append.1 h1 with h1 | h1
        · exact ⟨a, h1, h2, h3⟩
        · rw [List.mem_singleton.1 h1] at h2 h3
          exact absurd ⟨h2.symm, h3.symm⟩ e
  · rcases List.mem_append.1 ha' with h1 | h1
    · rw [atKey_put_other, ha a h1 z]
      intro e'
      obtain ⟨e1, e2⟩ := keyL_inj (hok a h1) hk e'
      exact hn ⟨a, h1, e1, e2⟩
    · rw [List.mem_singleton.1 h1]
      exact atKey_put_same hm (keyL_key hk) _ _
theorem zero3 (w : World) : (zeroValue 3).run Try.prog w = .ok (.int .i64 0) w := by kernel_rfl
def ego (cs : List Sc) (d : List Int) : Nat → Nat → List En → List En × Int × Int
  | 0, _, acc => (acc, 0, 0)
  | F + 1, i, acc =>
    letI := decId (strA (seg d (4 + 12 * i) 4))
    letI := decAmong acc (strA (seg d (4 + 12 * i) 4)) (beV d (8 + 12 * i) 4)
    if ¬ IsId (strA (seg d (4 + 12 * i) 4)) then ([], 61, 24 + 12 * i) else if Among acc (strA (seg d (4 + 12 * i) 4)) (beV d (8 + 12 * i) 4) then ([], 6, 24 + 12 * i)
    else if ixS cs (beV d (12 + 12 * i) 4) = 0 then ([], 61, 32 + 12 * i) else ego cs d F (i + 1) (acc ++ [(strA (seg d (4 + 12 * i) 4), beV d (8 + 12 * i) 4, ixS cs (beV d (12 + 12 * i) 4))])
/-- names as they lie in memory -/
def nmsV (acc : List En) : List Value := acc.flatMap fun a => [.string a.1, .int .u32 a.2.1]
theorem nmsV_snoc (acc : List En) (a : En) : nmsV (acc ++ [a]) = nmsV acc ++ [.string a.1, .int .u32 a.2.1] := by simp [nmsV]
theorem infoNm : (Try.prog.info? 88).map (fun i => (i.zero, i.size, i.bytes)) = some (some (.agg #[.string ⟨#[]⟩, .int .u32 0]), 2, 24) := by kernel_rfl
/-- a box that holds two values -/
def Box2 (w : World) (g : Nat) (x y : Value) (t : TypeId) : Prop := w.heap[g]? = some (.cells #[x, y] t (0, 0))
theorem Box2.new (w : World) (x y : Value) (t : TypeId) : Box2 (w.alloc (.cells #[x, y] t)) w.heap.size x y t := heap_alloc_new _ _
theorem Box2.lt {w : World} {g : Nat} {x y : Value} {t : TypeId} (h : Box2 w g x y t) : g < w.heap.size := by
  unfold Box2 at h
  exact (Array.getElem?_eq_some_iff.1 h).1
theorem Box2.grown {w w' : World} {g : Nat} {x y : Value} {t : TypeId} {row : Option Nat} (h : Box2 w g x y t) (hg : w.grownBy w' row) (hne : row ≠ some g) : Box2 w' g x y t :=
  (hg.block g h.lt (fun e => hne e.symm)).trans h
theorem Box2.alloc {w : World} {g : Nat} {x y : Value} {t : TypeId} (h : Box2 w g x y t) (o : Obj) : Box2 (w.alloc o) g x y t := h.grown (World.grownBy_alloc w o none) (by simp)
theorem Box2.later {w w' : World} {g : Nat} {x y : Value} {t : TypeId} (h : Box2 w g x y t) (hb : Below w.heap.size w w') : Box2 w' g x y t := (hb.block g h.lt).trans h
theorem Box2.cells {w : World} {g : Nat} {x y : Value} {t : TypeId} (h : Box2 w g x y t) : w.cell? ⟨g, 0, none⟩ = some x ∧ w.cell? ⟨g, 1, none⟩ = some y := by
  unfold Box2 at h
  simp [World.cell?, h]
/-- a box that holds three values -/
def Box3 (w : World) (g : Nat) (x y z : Value) (t : TypeId) : Prop := w.heap[g]? = some (.cells #[x, y, z] t (0, 0))
theorem Box3.new (w : World) (x y z : Value) (t : TypeId) : Box3 (w.alloc (.cells #[x, y, z] t)) w.heap.size x y z t := heap_alloc_new _ _
theorem Box3.lt {w : World} {g : Nat} {x y z : Value} {t : TypeId} (h : Box3 w g x y z t) : g < w.heap.size := by
  unfold Box3 at h
  exact (Array.getElem?_eq_some_iff.1 h).1
theorem Box3.grown {w w' : World} {g : Nat} {x y z : Value} {t : TypeId} {row : Option Nat} (h : Box3 w g x y z t) (hg : w.grownBy w' row) (hne : row ≠ some g) : Box3 w' g x y z t :=
  (hg.block g h.lt (fun e => hne e.symm)).trans h
theorem Box3.alloc {w : World} {g : Nat} {x y z : Value} {t : TypeId} (h : Box3 w g x y z t) (o : Obj) : Box3 (w.alloc o) g x y z t := h.grown (World.grownBy_alloc w o none) (by simp)
theorem Box3.later {w w' : World} {g : Nat} {x y z : Value} {t : TypeId} (h : Box3 w g x y z t) (hb : Below w.heap.size w w') : Box3 w' g x y z t := (hb.block g h.lt).trans h
theorem Box3.cells {w : World} {g : Nat} {x y z : Value} {t : TypeId} (h : Box3 w g x y z t) : w.cell? ⟨g, 0, none⟩ = some x ∧ w.cell? ⟨g, 1, none⟩ = some y ∧ w.cell? ⟨g, 2, none⟩ = some z ∧ w.frozen? ⟨g, 0, none⟩ = false ∧ w.frozen? ⟨g, 1, none⟩ = false ∧ w.frozen? ⟨g, 2, none⟩ = false := by
  unfold Box3 at h
  simp [World.cell?, World.frozen?, h]
theorem Box3.set1 {w : World} {g : Nat} {x y z : Value} {t : TypeId} (h : Box3 w g x y z t) (y' : Value) : Box3 (w.setCell ⟨g, 1, none⟩ y') g x y' z t := heap_setCell_same _ _ 1 _ _ _ h
theorem Box3.setAll {w : World} {g : Nat} {x y z : Value} {t : TypeId} (h : Box3 w g x y z t) (x' y' z' : Value) : Box3 (((w.setCell ⟨g, 0, none⟩ x').setCell ⟨g, 1, none⟩ y').setCell ⟨g, 2, none⟩ z') g x' y' z' t := heap_setCell_same _ _ 2 _ _ _ (heap_setCell_same _ _ 1 _ _ _ (heap_setCell_same _ _ 0 _ _ _ h))
end Go.Proofs.Ytedihackifchcaa
