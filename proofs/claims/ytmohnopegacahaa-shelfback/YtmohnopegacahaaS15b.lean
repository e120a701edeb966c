/- Layer 15, the program: a stream: its size, what it reads. -/
import Derived.Test.YtmohnopegacahaaS15a
namespace Go.Proofs.Ytmohnopegacahaa
open Go.RowKit
set_option maxHeartbeats 1000000
set_option maxRecDepth 100000
set_option linter.unusedVariables false

/-- a stream: its block, its number, whether it lies on a file, the block of what it lies on, its mode, whether it is wide, its place, how many it read and wrote -/
structure Sm where
  k : Nat
  n : Int
  f : Bool
  g : Nat
  md : Int
  wd : Bool
  pl : Nat
  rd : Int
  wr : Int
def onV (f : Bool) (g : Nat) : Value := if f then .iface 72 (.pointer (some ⟨g, 0, none⟩)) else .iface 95 (.pointer (some ⟨g, 0, none⟩))
def SBox (w : World) (d : Sm) : Prop := w.heap[d.k]? = some (.cells #[.int .i64 d.n, onV d.f d.g, .int .i64 d.md, .bool d.wd, .int .i64 d.pl, .int .u32 d.rd, .int .u32 d.wr] 80 (0, 0))
theorem SBox.cells {w : World} {d : Sm} (h : SBox w d) : w.cell? ⟨d.k, 0, none⟩ = some (.int .i64 d.n) ∧ w.cell? ⟨d.k, 1, none⟩ = some (onV d.f d.g) ∧ w.cell? ⟨d.k, 2, none⟩ = some (.int .i64 d.md) ∧ w.cell? ⟨d.k, 3, none⟩ = some (.bool d.wd) ∧ w.cell? ⟨d.k, 4, none⟩ = some (.int .i64 d.pl) ∧ w.cell? ⟨d.k, 5, none⟩ = some (.int .u32 d.rd) ∧ w.cell? ⟨d.k, 6, none⟩ = some (.int .u32 d.wr) ∧ (∀ j, w.frozen? ⟨d.k, j, none⟩ = false) := by
  unfold SBox at h
  exact ⟨by simp [World.cell?, h], by simp [World.cell?, h], by simp [World.cell?, h], by simp [World.cell?, h], by simp [World.cell?, h], by simp [World.cell?, h], by simp [World.cell?, h], fun j => by simp [World.frozen?, h]⟩
theorem SBox.lt {w : World} {d : Sm} (h : SBox w d) : d.k < w.heap.size := (Array.getElem?_eq_some_iff.1 h).1
theorem SBox.later {w w' : World} {d : Sm} (h : SBox w d) (hb : Below w.heap.size w w') : SBox w' d := by
  unfold SBox at h ⊢
  exact (hb.block d.k (Array.getElem?_eq_some_iff.1 h).1).trans h
/-- what a stream lies on, as it lies -/
def GAt (B : Nat) (w : World) (f : Bool) (g : Nat) (v : Value) (zs : List Int) : Prop := if f then FAt B w g v zs else BAt B w g v zs
theorem GAt.later {B g : Nat} {w w' : World} {f : Bool} {v : Value} {zs : List Int} (h : GAt B w f g v zs) (hb : Below w.heap.size w w') : GAt B w' f g v zs := by
  unfold GAt at h ⊢
  cases f
  · exact BAt.later h hb
  · exact FAt.later h hb
def gsz (f wide : Bool) (zs : List Int) : Nat := if f then zs.length / wdN wide else zs.length
def gch (f wide : Bool) (zs : List Int) (k : Nat) : Int := if f then beV zs (k * wdN wide) (wdN wide) else zs.getD k 0
theorem GAt.few {B g : Nat} {w : World} {f : Bool} {v : Value} {zs : List Int} (h : GAt B w f g v zs) (wide : Bool) : gsz f wide zs ≤ 4000000 := by
  unfold GAt at h
  cases f
  · exact BAt.few h
  · have := FAt.few h
    have h2 := Nat.div_le_self zs.length (wdN wide)
    unfold gsz
    rw [if_pos rfl]
    omega
theorem dr_add {w w1 : World} (h : Dr w w1) : Dr w w1.drew := by
  obtain ⟨m, rfl⟩ := h
  exact ⟨m + 1, by rw [← World.drewN_drewN]; rfl⟩
theorem osize_any {B : Nat} {w : World} {v : Value} {zs : List Int} (d : Sm) (hs : SBox w d) (hg : GAt B w d.f d.g v zs) :
    Calls Try.prog 29 #[.pointer (some ⟨d.k, 0, none⟩)] w fun e w' => e = .returned (.int .i64 (gsz d.f d.wd zs)) ∧ Dr w w' := by
  obtain ⟨c0, c1, c2, c3, c4, c5, c6, z0⟩ := hs.cells
  obtain ⟨k, n, f, g, md, wd, pl, rd, wr⟩ := d
  simp only at *
  clear hs c0 c2 c4 c5 c6
  cases f
  · have HS := hidden (bsize_any (show BAt B w.drew g v zs from BAt.later hg ((Below.refl _ _).drew)) wd)
    rw [show onV false g = .iface 95 (.pointer (some ⟨g, 0, none⟩)) from rfl] at c1
    rw [show gsz false wd zs = zs.length from rfl]
    clear hg
    generalize zs.length = N at *
    go_enter Try.func29, Try.ntmps29
    go_upto_region 1 with fail
    go_region_held3 (fun w' => w'.cell? ⟨k, 1, none⟩ = some (.iface 95 (.pointer (some ⟨g, 0, none⟩))) ∧ w'.cell? ⟨k, 3, none⟩ = some (.bool wd)) (first | assumption | exact ⟨by assumption, by assumption⟩ | go_keep) (first | (go_at_call 109; refine HS.out.mono ?_; rintro e w5 ⟨rfl, e2⟩; rw [e2]; clear e2) | fail)
    all_goals go_wp2
    all_goals go_ret
    all_goals exact ⟨rfl, ⟨1, rfl⟩⟩
  · have HS := hidden (fsize_any (show FAt B w.drew g v zs from FAt.later hg ((Below.refl _ _).drew)) wd)
    rw [show onV true g = .iface 72 (.pointer (some ⟨g, 0, none⟩)) from rfl] at c1
    rw [show gsz true wd zs = zs.length / wdN wd from rfl]
    have HCC : Hid (∀ w1, Dr w.drew w1 → w1.cell? ⟨k, 1, none⟩ = some (.iface 72 (.pointer (some ⟨g, 0, none⟩))) ∧ w1.cell? ⟨k, 3, none⟩ = some (.bool wd)) := hidden (by rintro w1 ⟨m, rfl⟩; exact ⟨c1, c3⟩)
    clear hg
    generalize zs.length / wdN wd = N at *
    go_enter Try.func29, Try.ntmps29
    go_upto_region 1 with fail
    go_region_held3 (fun w' => w'.cell? ⟨k, 1, none⟩ = some (.iface 72 (.pointer (some ⟨g, 0, none⟩))) ∧ w'.cell? ⟨k, 3, none⟩ = some (.bool wd)) (first | assumption | exact ⟨by assumption, by assumption⟩ | go_keep) (first | (go_at_call 103; refine HS.out.mono ?_; rintro e w5 ⟨rfl, hd⟩; obtain ⟨j1, j2⟩ := HCC.out _ hd; have HD := hidden hd; clear hd) | fail)
    all_goals go_wp2
    all_goals go_ret
    all_goals exact ⟨rfl, Dr.trans ⟨1, rfl⟩ HD.out⟩
end Go.Proofs.Ytmohnopegacahaa
