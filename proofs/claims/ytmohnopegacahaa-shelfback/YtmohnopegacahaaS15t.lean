/- Layer 15, the program: mayHave, hasRoom. -/
import Derived.Test.YtmohnopegacahaaS15s
namespace Go.Proofs.Ytmohnopegacahaa
open Go.RowKit
set_option maxHeartbeats 1000000
set_option maxRecDepth 100000
set_option linter.unusedVariables false

def sumF (F : List Fl) : Nat := (F.map (fun f => f.zs.length)).sum
theorem beside_any {B m : Nat} {w : World} {s : Sh} (h : ShAt B w m s) (fp : Option Nat) (hfp : ∀ b, fp = some b → IsF w b) (hsum : sumF s.F ≤ 4000000) :
    Calls Try.prog 46 #[.pointer (some ⟨m, 0, none⟩), ptrF fp] w fun e w' => e = .returned (.int .i64 (bbF s.F fp : Nat)) ∧ Below w.heap.size w w' := by
  cases hf : s.fm with
  | none => exact beside_nil h hf fp
  | some mb => exact beside_some h hf fp hfp hsum
theorem bbF_le (F : List Fl) (fp : Option Nat) : bbF F fp ≤ sumF F := by
  rw [← bb_end fp (left := fun _ => false) (fun _ => rfl)]
  exact bb_le fp _
theorem mayHave_any {B m : Nat} {w : World} {s : Sh} (h : ShAt B w m s) (ok : OkS s) (fp : Option Nat) (hfp : ∀ b, fp = some b → IsF w b) (hsum : sumF s.F ≤ 4000000) (n : Nat) (hn : n ≤ 8000000) :
    Calls Try.prog 54 #[.pointer (some ⟨m, 0, none⟩), ptrF fp, .int .i64 n] w fun e w' => e = .returned (.bool (decide ((n : Int) ≤ s.most - (bbF s.F fp : Nat)))) ∧ Below w.heap.size w w' := by
  obtain ⟨d0, d1, d2, d3, d5⟩ := h.cells
  have hb : Below w.heap.size w w.drew := (Below.refl _ _).drew
  have HB := hidden (beside_any (h.later hb) fp (fun b e => (hfp b e).later hb) hsum)
  have HC : Hid (∀ w1, Below w.heap.size w w1 → w1.cell? ⟨m, 0, none⟩ = some (.int .i64 s.most)) := hidden (fun w1 hb => (h.later hb).cells.1)
  have hm := ok.most0
  have hbb := bbF_le s.F fp
  have q1 : IntKind.i64.wrap (s.most - (bbF s.F fp : Nat)) = s.most - (bbF s.F fp : Nat) := by rw [IntKind.wrap_i64]; omega
  clear h ok hfp hbb hsum d1 d2 d3 d5 hb
  generalize hPF : ptrF fp = PF at *
  clear hPF
  generalize bbF s.F fp = BB at *
  go_enter Try.func54, Try.ntmps54
  go_upto_region 1 with fail
  go_region_held3 (fun w' => w'.cell? ⟨m, 0, none⟩ = some (.int .i64 s.most)) (first | assumption | go_keep) (first | (go_at_call 46; refine HB.out.mono ?_; rintro e w5 ⟨rfl, hd⟩; have HD : Hid (Below w.heap.size w w5) := hidden (((Below.refl w.heap.size w).drew).trans hd); have e5 := HC.out _ HD.out; clear hd) | fail)
  all_goals (try go_wp2)
  all_goals go_ret
  all_goals exact ⟨by first | rfl | simp, HD.out⟩
theorem hasRoom_buf {m : Nat} {w : World} (d : Sm) (hs : SBox w d) (hf : d.f = false) (n : Nat) :
    Calls Try.prog 36 #[.pointer (some ⟨m, 0, none⟩), .pointer (some ⟨d.k, 0, none⟩), .int .i64 n] w fun e w' => e = .returned (.bool true) ∧ Below w.heap.size w w' := by
  obtain ⟨c0, c1, c2, c3, c4, c5, c6, z0⟩ := hs.cells
  have a4 := fun w => as_bf d.g w
  rw [hf] at c1
  rw [show onV false d.g = .iface 95 (.pointer (some ⟨d.g, 0, none⟩)) from rfl] at c1
  clear hs c0 c2 c5 c6 hf
  go_enter Try.func36, Try.ntmps36
  go_upto_region 2 with fail
  go_quiet (first | (fail))
  all_goals (try go_wp2)
  all_goals go_ret
  all_goals exact ⟨rfl, Dr.below ⟨_, rfl⟩⟩
/-- may so many characters be written? -/
def roomB (s : Sh) (d : Sm) (n : Nat) : Bool := decide (((max (zsOf s d).length ((d.pl + n) * wdN d.wd) : Nat) : Int) ≤ s.most - (bbF s.F (some d.g) : Nat))
theorem hasRoom_file {B m : Nat} {w : World} {s : Sh} (h : ShAt B w m s) (ok : OkS s) (hsum : sumF s.F ≤ 4000000) (d : Sm) (hd : d ∈ s.S) (hf : d.f = true) (n : Nat) (hn : d.pl + n ≤ 1500000) :
    Calls Try.prog 36 #[.pointer (some ⟨m, 0, none⟩), .pointer (some ⟨d.k, 0, none⟩), .int .i64 n] w fun e w' => e = .returned (.bool (roomB s d n)) ∧ Below w.heap.size w w' := by
  have hs := (h.ss d hd).2
  obtain ⟨c0, c1, c2, c3, c4, c5, c6, z0⟩ := hs.cells
  have a1 := fun w => as_ff d.g w
  rw [hf] at c1
  rw [show onV true d.g = .iface 72 (.pointer (some ⟨d.g, 0, none⟩)) from rfl] at c1
  obtain ⟨v, hg, hg1, _⟩ := h.ground ok hd
  have hgf : FAt B w d.g v (zsOf s d) := by unfold GAt at hg; rw [hf] at hg; exact hg
  have hb : Below w.heap.size w w.drew := (Below.refl _ _).drew
  have hw4 : wdN d.wd ≤ 4 := by cases d.wd <;> decide
  have hzl := hgf.few
  have hpn : (d.pl + n) * wdN d.wd ≤ (d.pl + n) * 4 := Nat.mul_le_mul_left _ hw4
  have HLN : Hid (∀ w1, Below w.heap.size w w1 → Calls Try.prog 55 #[.pointer (some ⟨d.g, 0, none⟩), .int .i64 ((d.pl : Int) + (n : Int)), .bool d.wd] w1 fun e w' => e = .returned (.int .i64 ((max (zsOf s d).length ((d.pl + n) * wdN d.wd) : Nat) : Int)) ∧ Hid (Below w.heap.size w w')) := hidden (fun w1 hb => by
    have h0 := flen_any (hgf.later hb) d.wd (d.pl + n) (by omega)
    rw [show ((d.pl + n : Nat) : Int) = (d.pl : Int) + (n : Int) by push_cast; rfl] at h0
    exact h0.mono (fun e w' hh => ⟨hh.1, hidden (hb.trans (hh.2.below.mono hb.size))⟩))
  have HMH : Hid (∀ w1, Below w.heap.size w w1 → Calls Try.prog 54 #[.pointer (some ⟨m, 0, none⟩), .pointer (some ⟨d.g, 0, none⟩), .int .i64 ((max (zsOf s d).length ((d.pl + n) * wdN d.wd) : Nat) : Int)] w1 fun e w' => e = .returned (.bool (roomB s d n)) ∧ Hid (Below w.heap.size w w')) := hidden (fun w1 hb => by
    exact (mayHave_any (h.later hb) ok (some d.g) (fun b e => by cases e; exact ⟨v, (hgf.later hb).box⟩) hsum _ (by omega)).mono (fun e w' hh => ⟨hh.1, hidden (hb.trans (hh.2.mono hb.size))⟩))
  have HC : Hid (∀ w1, Below w.heap.size w w1 → w1.cell? ⟨d.k, 4, none⟩ = some (.int .i64 d.pl) ∧ w1.cell? ⟨d.k, 3, none⟩ = some (.bool d.wd)) := hidden (fun w1 hb => ⟨(hs.later hb).cells.2.2.2.2.1, (hs.later hb).cells.2.2.2.1⟩)
  have q1 : IntKind.i64.wrap ((d.pl : Int) + (n : Int)) = (d.pl : Int) + (n : Int) := by rw [IntKind.wrap_i64]; omega
  clear h ok hsum hd hs hf hg hg1 hgf hzl hpn hn c0 c2 c5 c6
  generalize max (zsOf s d).length ((d.pl + n) * wdN d.wd) = MX at *
  generalize roomB s d n = RB at *
  go_enter Try.func36, Try.ntmps36
  go_upto_region 2 with fail
  have HLN1 := hidden (HLN.out w.drew hb)
  go_region_held3 (fun w' => w'.cell? ⟨d.k, 4, none⟩ = some (.int .i64 d.pl) ∧ w'.cell? ⟨d.k, 3, none⟩ = some (.bool d.wd)) (first | assumption | exact ⟨by assumption, by assumption⟩ | go_keep) (first | (go_at_call 55; refine HLN1.out.mono ?_; rintro e w5 ⟨rfl, HB5⟩; obtain ⟨i4, i3⟩ := HC.out _ HB5.out) | (go_at_call 54; refine (HMH.out _ HB5.out).mono ?_; rintro e w6 ⟨rfl, HB6⟩; obtain ⟨j4, j3⟩ := HC.out _ HB6.out) | fail)
  all_goals (try go_wp2)
  all_goals go_ret
  all_goals exact ⟨rfl, HB6.out⟩
end Go.Proofs.Ytmohnopegacahaa
