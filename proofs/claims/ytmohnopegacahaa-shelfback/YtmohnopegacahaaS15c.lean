/- Layer 15, the program: what a stream reads; its place. -/
import Derived.Test.YtmohnopegacahaaS15b
namespace Go.Proofs.Ytmohnopegacahaa
open Go.RowKit
set_option maxHeartbeats 1000000
set_option maxRecDepth 100000
set_option linter.unusedVariables false

def up32 (x : Int) : Int := (x + 1) % 4294967296
theorem up_wrap (x : Int) : IntKind.u32.wrap (x + 1) = up32 x := by rw [IntKind.wrap_u32]; rfl
theorem SBox.set4 {w : World} {d : Sm} (h : SBox w d) (p : Nat) : SBox (w.setCell ⟨d.k, 4, none⟩ (.int .i64 p)) { d with pl := p } := by
  unfold SBox at h ⊢
  rw [bkset h]; rfl
theorem SBox.set5 {w : World} {d : Sm} (h : SBox w d) (p : Int) : SBox (w.setCell ⟨d.k, 5, none⟩ (.int .u32 p)) { d with rd := p } := by
  unfold SBox at h ⊢
  rw [bkset h]; rfl
theorem SBox.set6 {w : World} {d : Sm} (h : SBox w d) (p : Int) : SBox (w.setCell ⟨d.k, 6, none⟩ (.int .u32 p)) { d with wr := p } := by
  unfold SBox at h ⊢
  rw [bkset h]; rfl
theorem SBox.set0 {w : World} {d : Sm} (h : SBox w d) (p : Int) : SBox (w.setCell ⟨d.k, 0, none⟩ (.int .i64 p)) { d with n := p } := by
  unfold SBox at h ⊢
  rw [bkset h]; rfl
/-- a stream changed, nothing else -/
def StR (w : World) (d : Sm) (w' : World) : Prop := SBox w' d ∧ Fm w w' (fun k => k = d.k) (fun k => k = d.k)
theorem StR.drew {w w' : World} {d : Sm} (h : StR w d w') : StR w d w'.drew := ⟨h.1.later ((Below.refl _ _).drew), h.2.trans (Fm.same ((Below.refl _ _).drew))⟩
theorem Dr.fm {w w' : World} {T : Nat → Prop} (h : Dr w w') : Fm w w' T T := Fm.same h.below
theorem ochar_any {B : Nat} {w : World} {v : Value} {zs : List Int} (d : Sm) (hg : GAt B w d.f d.g v zs) (hp : d.pl < gsz d.f d.wd zs) :
    (d.f = true → Calls Try.prog 101 #[.pointer (some ⟨d.g, 0, none⟩), .int .i64 d.pl, .bool d.wd] w fun e w' => e = .returned (.int .u32 (gch d.f d.wd zs d.pl)) ∧ w' = w) ∧
    (d.f = false → Calls Try.prog 107 #[.pointer (some ⟨d.g, 0, none⟩), .int .i64 d.pl, .bool d.wd] w fun e w' => e = .returned (.int .u32 (gch d.f d.wd zs d.pl)) ∧ w' = w) := by
  obtain ⟨k, n, f, g, md, wd, pl, rd, wr⟩ := d
  simp only at *
  cases f
  · exact ⟨fun q => (by cases q), fun _ => bchar_any hg wd pl hp⟩
  · refine ⟨fun _ => fchar_any hg wd pl ?_, fun q => (by cases q)⟩
    have h1 : pl < zs.length / wdN wd := hp
    have hw : 0 < wdN wd := by cases wd <;> decide
    have := (Nat.le_div_iff_mul_le hw).1 (show pl + 1 ≤ zs.length / wdN wd from h1)
    exact this
theorem next_end {B : Nat} {w : World} {v : Value} {zs : List Int} (d : Sm) (hs : SBox w d) (hg : GAt B w d.f d.g v zs) (hp : gsz d.f d.wd zs ≤ d.pl) :
    Calls Try.prog 39 #[.pointer (some ⟨d.k, 0, none⟩)] w fun e w' => e = .returned (.tuple #[.int .u32 0, .bool false]) ∧ Dr w w' := by
  obtain ⟨c0, c1, c2, c3, c4, c5, c6, z0⟩ := hs.cells
  have hb : Below w.heap.size w w.drew := (Below.refl _ _).drew
  have HS := hidden (osize_any d (hs.later hb) (hg.later hb))
  have HS0 := hidden (osize_any d hs hg)
  have l1 : (d.pl : Int) ≥ (gsz d.f d.wd zs : Nat) := by omega
  have HC : Hid (∀ w1, Dr w w1 → w1.cell? ⟨d.k, 4, none⟩ = some (.int .i64 d.pl)) := hidden (by rintro w1 ⟨m, rfl⟩; exact c4)
  clear hs hg c0 c1 c2 c3 c5 c6 hp hb
  generalize gsz d.f d.wd zs = N at *
  go_enter Try.func39, Try.ntmps39
  go_upto_region 1 with fail
  go_region_held3 (fun w' => w'.cell? ⟨d.k, 4, none⟩ = some (.int .i64 d.pl)) (first | assumption | go_keep) (first | (go_at_call 29; refine HS.out.mono ?_; rintro e w5 ⟨rfl, hd⟩; have j1 := HC.out _ (Dr.trans ⟨1, rfl⟩ hd); have HD := hidden (Dr.trans (w := w) ⟨1, rfl⟩ hd); clear hd) | fail)
  all_goals go_wp2
  all_goals go_ret2
  all_goals exact ⟨rfl, HD.out⟩
set_option maxHeartbeats 4000000 in
theorem next_some {B : Nat} {w : World} {v : Value} {zs : List Int} (d : Sm) (hs : SBox w d) (hg : GAt B w d.f d.g v zs) (hp : d.pl < gsz d.f d.wd zs) :
    Calls Try.prog 39 #[.pointer (some ⟨d.k, 0, none⟩)] w fun e w' => e = .returned (.tuple #[.int .u32 (gch d.f d.wd zs d.pl), .bool true]) ∧ StR w { d with pl := d.pl + 1, rd := up32 d.rd } w' := by
  obtain ⟨c0, c1, c2, c3, c4, c5, c6, z0⟩ := hs.cells
  have hb : Below w.heap.size w w.drew := (Below.refl _ _).drew
  have HS := hidden (osize_any d (hs.later hb) (hg.later hb))
  have hfew := hg.few d.wd
  have l1 : ¬ (d.pl : Int) ≥ (gsz d.f d.wd zs : Nat) := by omega
  have l4 : ¬ gsz d.f d.wd zs ≤ d.pl := by omega
  have l2 : IntKind.i64.wrap ((d.pl : Int) + 1) = ((d.pl + 1 : Nat) : Int) := by rw [IntKind.wrap_i64]; push_cast; omega
  have l3 := up_wrap d.rd
  have HC : Hid (∀ w1, Dr w w1 → SBox w1 d ∧ GAt B w1 d.f d.g v zs) := hidden (by rintro w1 h; exact ⟨hs.later h.below, hg.later h.below⟩)
  have HCH : Hid (∀ w1, Dr w w1 → _) := hidden (fun w1 h => ochar_any (w := w1) d (HC.out w1 h).2 hp)
  have HEND : Hid (∀ w1, Dr w w1 → StR w { d with pl := d.pl + 1, rd := up32 d.rd } ((w1.setCell ⟨d.k, 4, none⟩ (.int .i64 ((d.pl + 1 : Nat) : Int))).setCell ⟨d.k, 5, none⟩ (.int .u32 (up32 d.rd)))) := hidden (fun w1 h => by
    have h1 := (HC.out w1 h).1.set4 (d.pl + 1)
    have h2 := h1.set5 (up32 d.rd)
    have f0 : Fm w w1 (fun k => k = d.k) (fun k => k = d.k) := Dr.fm h
    exact ⟨h2, (f0.set d.k 4 _ rfl).set d.k 5 _ rfl⟩)
  clear hs hg hb hp hfew c0 c2 c6
  generalize gsz d.f d.wd zs = N at *
  generalize gch d.f d.wd zs d.pl = V at *
  generalize ((d.pl + 1 : Nat) : Int) = P1 at *
  generalize up32 d.rd = R1 at *
  rcases (show d.f = false ∨ d.f = true by cases d.f <;> simp) with hf | hf
  · rw [hf] at c1
    rw [show onV false d.g = .iface 95 (.pointer (some ⟨d.g, 0, none⟩)) from rfl] at c1
    have HC2 : Hid (∀ w1, Dr w w1 → w1.cell? ⟨d.k, 1, none⟩ = some (.iface 95 (.pointer (some ⟨d.g, 0, none⟩))) ∧ w1.cell? ⟨d.k, 3, none⟩ = some (.bool d.wd) ∧ w1.cell? ⟨d.k, 4, none⟩ = some (.int .i64 d.pl) ∧ w1.cell? ⟨d.k, 5, none⟩ = some (.int .u32 d.rd) ∧ (∀ j, w1.frozen? ⟨d.k, j, none⟩ = false)) := hidden (by rintro w1 ⟨m, rfl⟩; exact ⟨c1, c3, c4, c5, z0⟩)
    have HCH2 : Hid (∀ w1, Dr w w1 → _) := hidden (fun w1 h => (HCH.out w1 h).2 hf)
    clear HCH HC c1 c3 c5 hf
    go_enter Try.func39, Try.ntmps39
    go_upto_region 1 with fail
    go_region_held3 (fun w' => w'.cell? ⟨d.k, 4, none⟩ = some (.int .i64 d.pl)) (first | assumption | go_keep) (first | (go_at_call 29; refine HS.out.mono ?_; rintro e w5 ⟨rfl, hd⟩; have HD := hidden (Dr.trans (w := w) ⟨1, rfl⟩ hd); obtain ⟨i1, i3, i4, i5, i7⟩ := HC2.out _ HD.out; clear hd) | fail)
    all_goals (
      go_upto_region 3 with fail
      go_region_held3 (fun w' => w'.cell? ⟨d.k, 1, none⟩ = some (.iface 95 (.pointer (some ⟨d.g, 0, none⟩))) ∧ w'.cell? ⟨d.k, 3, none⟩ = some (.bool d.wd) ∧ w'.cell? ⟨d.k, 4, none⟩ = some (.int .i64 d.pl) ∧ w'.cell? ⟨d.k, 5, none⟩ = some (.int .u32 d.rd)) (first | assumption | exact ⟨by assumption, by assumption, by assumption, by assumption⟩ | go_keep) (first | (go_at_call 107; refine (HCH2.out _ (dr_add HD.out)).mono ?_; rintro e w6 ⟨rfl, e2⟩; rw [e2]; clear e2) | fail)
      all_goals (
        go_wp2
        go_ret2
        exact ⟨rfl, (HEND.out _ HD.out).drew⟩))
  · rw [hf] at c1
    rw [show onV true d.g = .iface 72 (.pointer (some ⟨d.g, 0, none⟩)) from rfl] at c1
    have HC2 : Hid (∀ w1, Dr w w1 → w1.cell? ⟨d.k, 1, none⟩ = some (.iface 72 (.pointer (some ⟨d.g, 0, none⟩))) ∧ w1.cell? ⟨d.k, 3, none⟩ = some (.bool d.wd) ∧ w1.cell? ⟨d.k, 4, none⟩ = some (.int .i64 d.pl) ∧ w1.cell? ⟨d.k, 5, none⟩ = some (.int .u32 d.rd) ∧ (∀ j, w1.frozen? ⟨d.k, j, none⟩ = false)) := hidden (by rintro w1 ⟨m, rfl⟩; exact ⟨c1, c3, c4, c5, z0⟩)
    have HCH2 : Hid (∀ w1, Dr w w1 → _) := hidden (fun w1 h => (HCH.out w1 h).1 hf)
    clear HCH HC c1 c3 c5 hf
    go_enter Try.func39, Try.ntmps39
    go_upto_region 1 with fail
    go_region_held3 (fun w' => w'.cell? ⟨d.k, 4, none⟩ = some (.int .i64 d.pl)) (first | assumption | go_keep) (first | (go_at_call 29; refine HS.out.mono ?_; rintro e w5 ⟨rfl, hd⟩; have HD := hidden (Dr.trans (w := w) ⟨1, rfl⟩ hd); obtain ⟨i1, i3, i4, i5, i7⟩ := HC2.out _ HD.out; clear hd) | fail)
    all_goals (
      go_upto_region 3 with fail
      go_region_held3 (fun w' => w'.cell? ⟨d.k, 1, none⟩ = some (.iface 72 (.pointer (some ⟨d.g, 0, none⟩))) ∧ w'.cell? ⟨d.k, 3, none⟩ = some (.bool d.wd) ∧ w'.cell? ⟨d.k, 4, none⟩ = some (.int .i64 d.pl) ∧ w'.cell? ⟨d.k, 5, none⟩ = some (.int .u32 d.rd)) (first | assumption | exact ⟨by assumption, by assumption, by assumption, by assumption⟩ | go_keep) (first | (go_at_call 101; refine (HCH2.out _ (dr_add HD.out)).mono ?_; rintro e w6 ⟨rfl, e2⟩; rw [e2]; clear e2) | fail)
      all_goals (
        go_wp2
        go_ret2
        exact ⟨rfl, (HEND.out _ HD.out).drew⟩))
end Go.Proofs.Ytmohnopegacahaa
