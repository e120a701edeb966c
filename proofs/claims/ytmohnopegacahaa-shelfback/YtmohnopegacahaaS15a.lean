/- Layer 15: files and buffers in memory; what a stream lies on. -/
import Derived.Test.YtmohnopegacahaaS15r
import Derived.Handy
import Derived.Deep.Cut
import Derived.Deep.CutRange
import Derived.OneCell
import Derived.Maps.AppendAt
import Derived.Maps.Own
import Derived.Maps.OwnOps
import Derived.Maps.OwnSet
import Derived.Maps.Views
import Derived.Maps.RangeWalk
namespace Go.Proofs.Ytmohnopegacahaa
open Go.RowKit
set_option maxHeartbeats 1000000
set_option maxRecDepth 100000
set_option linter.unusedVariables false

/-- how many bytes a character has -/
def wdN (b : Bool) : Nat := if b then 4 else 1
def w32V (zs : List Int) : List Value := zs.map (Value.int .u32)
/-- a file as it lies: its block, its row, its bytes -/
structure FAt (B : Nat) (w : World) (b : Nat) (v : Value) (zs : List Int) : Prop where
  base : B ≤ b
  box : w.heap[b]? = some (.cells #[v] 75 (0, 0))
  row : w.ownsRow B 5 1 v zs.length (bytesV zs)
  few : zs.length ≤ 4000000
  bd : ∀ z ∈ zs, 0 ≤ z ∧ z ≤ 255
/-- a buffer as it lies -/
structure BAt (B : Nat) (w : World) (b : Nat) (v : Value) (zs : List Int) : Prop where
  base : B ≤ b
  box : w.heap[b]? = some (.cells #[v] 97 (0, 0))
  row : w.ownsRow B 32 1 v zs.length (w32V zs)
  few : zs.length ≤ 4000000
  bd : ∀ z ∈ zs, 0 ≤ z ∧ z ≤ 4294967295
theorem FAt.cell {B b : Nat} {w : World} {v : Value} {zs : List Int} (h : FAt B w b v zs) : w.cell? ⟨b, 0, none⟩ = some v ∧ w.frozen? ⟨b, 0, none⟩ = false := ⟨by simp [World.cell?, h.box], by simp [World.frozen?, h.box]⟩
theorem BAt.cell {B b : Nat} {w : World} {v : Value} {zs : List Int} (h : BAt B w b v zs) : w.cell? ⟨b, 0, none⟩ = some v ∧ w.frozen? ⟨b, 0, none⟩ = false := ⟨by simp [World.cell?, h.box], by simp [World.frozen?, h.box]⟩
theorem FAt.later {B b : Nat} {w w' : World} {v : Value} {zs : List Int} (h : FAt B w b v zs) (hb : Below w.heap.size w w') : FAt B w' b v zs := ⟨h.base, (hb.block b (Array.getElem?_eq_some_iff.1 h.box).1).trans h.box, own_later h.row hb, h.few, h.bd⟩
theorem BAt.later {B b : Nat} {w w' : World} {v : Value} {zs : List Int} (h : BAt B w b v zs) (hb : Below w.heap.size w w') : BAt B w' b v zs := ⟨h.base, (hb.block b (Array.getElem?_eq_some_iff.1 h.box).1).trans h.box, own_later h.row hb, h.few, h.bd⟩
theorem FAt.fm {B b : Nat} {w w' : World} {v : Value} {zs : List Int} {T T' : Nat → Prop} (h : FAt B w b v zs) (f : Fm w w' T T') (h1 : ¬ T b) (h2 : ∀ k, v.ownBlock = some k → ¬ T k) : FAt B w' b v zs := ⟨h.base, (f.block b (Array.getElem?_eq_some_iff.1 h.box).1 h1).trans h.box, own_fm f h.row h2, h.few, h.bd⟩
theorem BAt.fm {B b : Nat} {w w' : World} {v : Value} {zs : List Int} {T T' : Nat → Prop} (h : BAt B w b v zs) (f : Fm w w' T T') (h1 : ¬ T b) (h2 : ∀ k, v.ownBlock = some k → ¬ T k) : BAt B w' b v zs := ⟨h.base, (f.block b (Array.getElem?_eq_some_iff.1 h.box).1 h1).trans h.box, own_fm f h.row h2, h.few, h.bd⟩
theorem widthOf_any (b : Bool) (w : World) : Calls Try.prog 64 #[.bool b] w fun e w' => e = .returned (.int .i64 (wdN b)) ∧ w' = w := by
  cases b
  · go_enter Try.func64, Try.ntmps64
    go_wp2
    go_ret
    exact ⟨rfl, rfl⟩
  · go_enter Try.func64, Try.ntmps64
    go_wp2
    go_ret
    exact ⟨rfl, rfl⟩
theorem fsize_any {B b : Nat} {w : World} {v : Value} {zs : List Int} (h : FAt B w b v zs) (wide : Bool) :
    Calls Try.prog 103 #[.pointer (some ⟨b, 0, none⟩), .bool wide] w fun e w' => e = .returned (.int .i64 ((zs.length / wdN wide : Nat) : Int)) ∧ Dr w w' := by
  obtain ⟨ao, c, rfl⟩ := own_slice h.row
  obtain ⟨c0, z0⟩ := h.cell
  have hl := h.few
  have HW := hidden (fun w1 => widthOf_any wide w1)
  clear h
  generalize zs.length = n at *
  cases wide
  · have q1 : IntKind.i64.wrap (n : Int) = (n : Int) := by rw [IntKind.wrap_i64]; omega
    rw [show n / wdN false = n by simp [wdN]]
    rw [show ((wdN false : Nat) : Int) = 1 from rfl] at HW
    go_enter Try.func103, Try.ntmps103
    go_upto_region 1 with fail
    go_region_held3 (fun w' => w'.cell? ⟨b, 0, none⟩ = some (.slice ao n c)) (first | assumption | go_keep) (first | (go_at_call 64; refine (HW.out _).mono ?_; rintro e w5 ⟨rfl, e2⟩; rw [e2]; clear e2) | fail)
    all_goals go_wp2
    all_goals go_ret
    all_goals exact ⟨by first | rfl | (refine congrArg Ending.returned (int_eq ?_); first | go_num | (simp [wrap64]; omega)), ⟨1, rfl⟩⟩
  · have q1 : IntKind.i64.wrap ((n : Int) / 4) = (n : Int) / 4 := by rw [IntKind.wrap_i64]; omega
    rw [show ((n / wdN true : Nat) : Int) = (n : Int) / 4 from rfl]
    rw [show ((wdN true : Nat) : Int) = 4 from rfl] at HW
    go_enter Try.func103, Try.ntmps103
    go_upto_region 1 with fail
    go_region_held3 (fun w' => w'.cell? ⟨b, 0, none⟩ = some (.slice ao n c)) (first | assumption | go_keep) (first | (go_at_call 64; refine (HW.out _).mono ?_; rintro e w5 ⟨rfl, e2⟩; rw [e2]; clear e2) | fail)
    all_goals go_wp2
    all_goals go_ret
    all_goals exact ⟨by first | rfl | (refine congrArg Ending.returned (int_eq ?_); first | go_num | (simp [wrap64]; omega)), ⟨1, rfl⟩⟩
/-- how many bytes a file has with so many characters -/
theorem flen_any {B b : Nat} {w : World} {v : Value} {zs : List Int} (h : FAt B w b v zs) (wide : Bool) (k : Nat) (hk : k ≤ 4000000) :
    Calls Try.prog 55 #[.pointer (some ⟨b, 0, none⟩), .int .i64 k, .bool wide] w fun e w' => e = .returned (.int .i64 ((max zs.length (k * wdN wide) : Nat) : Int)) ∧ Dr w w' := by
  obtain ⟨ao, c, rfl⟩ := own_slice h.row
  obtain ⟨c0, z0⟩ := h.cell
  have hl := h.few
  have HW := hidden (fun w1 => widthOf_any wide w1)
  clear h
  generalize zs.length = n at *
  cases wide
  · have q1 : IntKind.i64.wrap (k : Int) = (k : Int) := by rw [IntKind.wrap_i64]; omega
    rw [show ((max n (k * wdN false) : Nat) : Int) = max (n : Int) (k : Int) by simp [wdN]; omega]
    rw [show ((wdN false : Nat) : Int) = 1 from rfl] at HW
    go_enter Try.func55, Try.ntmps55
    go_upto_region 1 with fail
    go_region_held3 (fun w' => w'.cell? ⟨b, 0, none⟩ = some (.slice ao n c)) (first | assumption | go_keep) (first | (go_at_call 64; refine (HW.out _).mono ?_; rintro e w5 ⟨rfl, e2⟩; rw [e2]; clear e2) | fail)
    all_goals go_wp2
    all_goals go_ret
    all_goals exact ⟨by first | rfl | (refine congrArg Ending.returned (int_eq ?_); first | go_num | (simp [wrap64]; omega)), ⟨1, rfl⟩⟩
  · have q1 : IntKind.i64.wrap ((k : Int) * 4) = (k : Int) * 4 := by rw [IntKind.wrap_i64]; omega
    rw [show ((max n (k * wdN true) : Nat) : Int) = max (n : Int) ((k : Int) * 4) by simp [wdN]; omega]
    rw [show ((wdN true : Nat) : Int) = 4 from rfl] at HW
    go_enter Try.func55, Try.ntmps55
    go_upto_region 1 with fail
    go_region_held3 (fun w' => w'.cell? ⟨b, 0, none⟩ = some (.slice ao n c)) (first | assumption | go_keep) (first | (go_at_call 64; refine (HW.out _).mono ?_; rintro e w5 ⟨rfl, e2⟩; rw [e2]; clear e2) | fail)
    all_goals go_wp2
    all_goals go_ret
    all_goals exact ⟨by first | rfl | (refine congrArg Ending.returned (int_eq ?_); first | go_num | (simp [wrap64]; omega)), ⟨1, rfl⟩⟩
theorem fchar_any {B b : Nat} {w : World} {v : Value} {zs : List Int} (h : FAt B w b v zs) (wide : Bool) (k : Nat) (hk : (k + 1) * wdN wide ≤ zs.length) :
    Calls Try.prog 101 #[.pointer (some ⟨b, 0, none⟩), .int .i64 k, .bool wide] w fun e w' => e = .returned (.int .u32 (beV zs (k * wdN wide) (wdN wide))) ∧ w' = w := by
  obtain ⟨ao, c, e⟩ := own_slice h.row
  obtain ⟨c0, z0⟩ := h.cell
  have hl := h.few
  have hw1 : 1 ≤ wdN wide := by cases wide <;> decide
  have hk1 : k < zs.length := by
    have : k + 1 ≤ (k + 1) * wdN wide := Nat.le_mul_of_pos_right _ hw1
    omega
  obtain ⟨g, cap, hv, hc1, _⟩ := owned_shape h.row (by omega)
  have hkl : ((k : Int) * ((wdN wide : Nat) : Int)) = ((k * wdN wide : Nat) : Int) := by push_cast; rfl
  have HW := hidden (fun w1 => widthOf_any wide w1)
  have hr := h.row
  rw [hv] at hr c0
  have HBE := hidden (be_any g 0 zs.length cap zs ((k * wdN wide : Nat) : Int) ((wdN wide : Nat) : Int) w (by cases wide; exact .inl rfl; exact .inr (.inr rfl)) (by omega) (by rw [Nat.add_mul, Nat.one_mul] at hk; omega) (by omega) hc1 (fun i hi => owned_cells hr i hi) h.bd)
  rw [show (((k * wdN wide : Nat) : Int)).toNat = k * wdN wide by omega] at HBE
  have q1 : IntKind.i64.wrap ((k : Int) * ((wdN wide : Nat) : Int)) = ((k * wdN wide : Nat) : Int) := by rw [hkl, IntKind.wrap_i64]; rw [Nat.add_mul, Nat.one_mul] at hk; omega
  clear h hr hv e
  generalize beV zs (k * wdN wide) ((wdN wide : Nat) : Int) = V at *
  generalize k * wdN wide = M at *
  generalize wdN wide = W at *
  generalize zs.length = n at *
  clear hkl hw1 hk
  go_enter Try.func101, Try.ntmps101
  go_wp2_with (first | (go_at_call 64; refine (HW.out _).mono ?_; rintro e w5 ⟨rfl, e2⟩; rw [e2]; clear e2) | (go_at_call 104; refine HBE.out.mono ?_; rintro e w5 ⟨rfl, e2⟩; rw [e2]; clear e2) | fail)
  go_ret
  exact ⟨rfl, rfl⟩
theorem bsize_any {B b : Nat} {w : World} {v : Value} {zs : List Int} (h : BAt B w b v zs) (wide : Bool) :
    Calls Try.prog 109 #[.pointer (some ⟨b, 0, none⟩), .bool wide] w fun e w' => e = .returned (.int .i64 zs.length) ∧ w' = w := by
  obtain ⟨ao, c, rfl⟩ := own_slice h.row
  obtain ⟨c0, z0⟩ := h.cell
  clear h
  go_enter Try.func109, Try.ntmps109
  go_wp2
  go_ret
  exact ⟨rfl, rfl⟩
theorem bchar_any {B b : Nat} {w : World} {v : Value} {zs : List Int} (h : BAt B w b v zs) (wide : Bool) (k : Nat) (hk : k < zs.length) :
    Calls Try.prog 107 #[.pointer (some ⟨b, 0, none⟩), .int .i64 k, .bool wide] w fun e w' => e = .returned (.int .u32 (zs.getD k 0)) ∧ w' = w := by
  obtain ⟨c0, z0⟩ := h.cell
  rcases h.row.2 with ⟨_, h0⟩ | ⟨g, cap, cur, hv, hbg, _, hnc, hcm, _⟩
  · omega
  have hr := h.row
  rw [hv] at hr c0
  have hc := hr.cells (g := g) rfl k (.int .u32 (zs.getD k 0)) (by simp [w32V, hk])
  rw [Addr.add_lit, Nat.zero_add] at hc
  have l1 : (k : Int) < zs.length := by omega
  have l0 : (0 : Int) ≤ k := by omega
  clear h hr hv
  generalize zs.getD k 0 = V at *
  generalize zs.length = n at *
  go_enter Try.func107, Try.ntmps107
  go_wp2
  go_ret
  exact ⟨rfl, rfl⟩
end Go.Proofs.Ytmohnopegacahaa
