/- Layer 15, the program: a stream that reads: which one, Read. -/
import Derived.Test.YtmohnopegacahaaU15b
namespace Go.Proofs.Ytmohnopegacahaa
open Go.RowKit
set_option maxHeartbeats 1000000
set_option maxRecDepth 100000
set_option linter.unusedVariables false

/-- one more, over and over -/
def upI (x : Int) : Nat → Int
  | 0 => x
  | j + 1 => up32 (upI x j)
theorem upI_zero (j : Nat) (h : j < 4294967296) : upI 0 j = j := by
  induction j with
  | zero => rfl
  | succ j ih => show up32 (upI 0 j) = _; rw [ih (by omega)]; unfold up32; omega
/-- a stream that has read on -/
def rdD (d : Sm) (j : Nat) : Sm := { d with pl := d.pl + j, rd := upI d.rd j }
/-- one stream turned -/
def putS (s : Sh) (i : Nat) (d : Sm) : Sh := { s with S := s.S.set i d }
theorem putS_ok {s : Sh} (ok : OkS s) (i : Nat) (hi : i < s.S.length) (d : Sm) (hk : d.k = s.S[i].k) (hn : d.n = s.S[i].n) (hf : d.f = s.S[i].f) (hg : d.g = s.S[i].g) : OkS (putS s i d) := by
  obtain ⟨h1, h2, _⟩ := set_ok ok i hi d hk hn
  have hm : ∀ e ∈ s.S.set i d, ∃ e' ∈ s.S, e.n = e'.n ∧ e.f = e'.f ∧ e.g = e'.g := fun e he => by
    rcases mem_set i d he with rfl | ⟨j, hj, _, rfl⟩
    · exact ⟨_, List.getElem_mem hi, hn, hf, hg⟩
    · exact ⟨_, List.getElem_mem hj, rfl, rfl, rfl⟩
  refine ⟨h1, h2, by show (s.S.set i d).length ≤ 64; rw [List.length_set]; exact ok.few, ok.fk, ok.gk, fun e he => ?_, ok.last0, fun e he => ?_, ok.most0⟩
  · obtain ⟨e', he', q1, q2, q3⟩ := hm e he
    rw [q2, q3]
    exact ok.on e' he'
  · obtain ⟨e', he', q1, q2, q3⟩ := hm e he
    rw [q1]
    exact ok.low e' he'
theorem putS_ts {s : Sh} {m i : Nat} (hi : i < s.S.length) {d : Sm} (hk : d.k = s.S[i].k) (k : Nat) : TS m (putS s i d) k ↔ TS m s k := by
  unfold TS
  have : (∃ e ∈ (putS s i d).S, k = e.k) ↔ (∃ e ∈ s.S, k = e.k) := by
    constructor
    · rintro ⟨e, he, rfl⟩
      rcases mem_set (s := s) i d he with rfl | ⟨j, hj, _, rfl⟩
      · exact ⟨_, List.getElem_mem hi, hk⟩
      · exact ⟨_, List.getElem_mem hj, rfl⟩
    · rintro ⟨e, he, rfl⟩
      obtain ⟨j, hj, rfl⟩ := List.getElem_of_mem he
      have hj2 : j < (s.S.set i d).length := by rw [List.length_set]; exact hj
      refine ⟨(s.S.set i d)[j], List.getElem_mem hj2, ?_⟩
      rw [List.getElem_set]
      split
      · rename_i e; subst e; exact hk.symm
      · rfl
  rw [this]
  rfl
/-- a stream of the shelf turned: the shelf is so, and what else is as it was -/
def PtR (B : Nat) (w : World) (m : Nat) (s : Sh) (i : Nat) (d : Sm) (w' : World) : Prop := ShAt B w' m (putS s i d) ∧ SBox w' d ∧ Fm w w' (fun k => k = d.k) (fun k => k = d.k)
theorem ShAt.fmx {B m : Nat} {w w' : World} {s : Sh} {T T' : Nat → Prop} (h : ShAt B w m s) (f : Fm w w' T T') (hn : ∀ k, TS m s k → ¬ T k) : ShAt B w' m s :=
  ⟨h.base, (f.block m h.lt (hn m (.inl rfl))).trans h.box, own_fm f h.row (fun k e => hn k (.inr (.inr (.inl e)))), fun d hd => ⟨(h.ss d hd).1, (h.ss d hd).2.fm f (hn _ (.inr (.inr (.inr (.inl ⟨d, hd, rfl⟩)))))⟩, fun x hx => (h.fs x hx).fm f (hn _ (.inr (.inr (.inr (.inr (.inl ⟨x, hx, .inl rfl⟩)))))) (fun k e => hn k (.inr (.inr (.inr (.inr (.inl ⟨x, hx, .inr e⟩)))))), fun x hx => (h.gs x hx).fm f (hn _ (.inr (.inr (.inr (.inr (.inr ⟨x, hx, .inl rfl⟩)))))) (fun k e => hn k (.inr (.inr (.inr (.inr (.inr ⟨x, hx, .inr e⟩)))))), h.mp.fm f (fun k e => hn k (.inr (.inl e)))⟩
theorem PtR.ts {B m i : Nat} {w w' : World} {s : Sh} {d : Sm} (h : PtR B w m s i d w') (hi : i < s.S.length) (hk : d.k = s.S[i].k) : Fm w w' (TS m s) (TS m (putS s i d)) :=
  h.2.2.to (fun k e => .inr (.inr (.inr (.inl ⟨_, List.getElem_mem hi, by rw [e, hk]⟩)))) (fun k e => .inl ((putS_ts hi hk k).1 e))
theorem PtR.later {B m i : Nat} {w w' w2 : World} {s : Sh} {d : Sm} (h : PtR B w m s i d w') (hb : Below w'.heap.size w' w2) : PtR B w m s i d w2 := ⟨h.1.later hb, h.2.1.later hb, h.2.2.trans (Fm.same hb)⟩
theorem readerAt_some {B m : Nat} {s : Sh} {w : World} (h : ShAt B w m s) (ok : OkS s) (i : Nat) (hi : i < s.S.length) (x : Int) (hx : s.S[i].n = x) (hr : rdB s.S[i].md = true) :
    Calls Try.prog 38 #[.pointer (some ⟨m, 0, none⟩), .int .i64 x] w fun e w' => e = .returned (.tuple #[.pointer (some ⟨s.S[i].k, 0, none⟩), .int .i64 0]) ∧ Below w.heap.size w w' := by
  have HA := hidden (at_some h ok i hi x hx)
  have HR : Hid (∀ w1, Below w.heap.size w w1 → Calls Try.prog 56 #[.pointer (some ⟨s.S[i].k, 0, none⟩)] w1 fun e w' => e = .returned (.bool true) ∧ w' = w1) := hidden (fun w1 hb => by
    have := reads_any s.S[i] w1 ((h.later hb).ss _ (List.getElem_mem hi)).2
    rw [hr] at this
    exact this)
  clear h ok hx hr
  generalize s.S[i].k = KK at *
  go_enter Try.func38, Try.ntmps38
  go_wp2_with (first | (go_at_call 31; refine HA.out.mono ?_; rintro e w2 ⟨rfl, hb2⟩; have HB2 := hidden hb2; clear hb2) | (go_at_call 56; refine (HR.out _ HB2.out).mono ?_; rintro e w3 ⟨rfl, e3⟩; rw [e3]; clear e3) | fail)
  go_ret2
  exact ⟨rfl, HB2.out⟩
theorem readerAt_bad {B m : Nat} {s : Sh} {w : World} (h : ShAt B w m s) (ok : OkS s) (i : Nat) (hi : i < s.S.length) (x : Int) (hx : s.S[i].n = x) (hr : rdB s.S[i].md = false) :
    Calls Try.prog 38 #[.pointer (some ⟨m, 0, none⟩), .int .i64 x] w fun e w' => e = .returned (.tuple #[.pointer none, .int .i64 1]) ∧ Below w.heap.size w w' := by
  have HA := hidden (at_some h ok i hi x hx)
  have HR : Hid (∀ w1, Below w.heap.size w w1 → Calls Try.prog 56 #[.pointer (some ⟨s.S[i].k, 0, none⟩)] w1 fun e w' => e = .returned (.bool false) ∧ w' = w1) := hidden (fun w1 hb => by
    have := reads_any s.S[i] w1 ((h.later hb).ss _ (List.getElem_mem hi)).2
    rw [hr] at this
    exact this)
  clear h ok hx hr
  generalize s.S[i].k = KK at *
  go_enter Try.func38, Try.ntmps38
  go_wp2_with (first | (go_at_call 31; refine HA.out.mono ?_; rintro e w2 ⟨rfl, hb2⟩; have HB2 := hidden hb2; clear hb2) | (go_at_call 56; refine (HR.out _ HB2.out).mono ?_; rintro e w3 ⟨rfl, e3⟩; rw [e3]; clear e3) | fail)
  go_ret2
  exact ⟨rfl, HB2.out⟩
theorem readerAt_none {B m : Nat} {s : Sh} {w : World} (h : ShAt B w m s) (ok : OkS s) (x : Int) (hx : ∀ d ∈ s.S, d.n ≠ x) :
    Calls Try.prog 38 #[.pointer (some ⟨m, 0, none⟩), .int .i64 x] w fun e w' => e = .returned (.tuple #[.pointer none, .int .i64 5]) ∧ Below w.heap.size w w' := by
  have HA := hidden (at_none h ok x hx)
  clear h ok hx
  go_enter Try.func38, Try.ntmps38
  go_wp2_with (first | (go_at_call 31; refine HA.out.mono ?_; rintro e w2 ⟨rfl, hb2⟩; have HB2 := hidden hb2; clear hb2) | fail)
  go_ret2
  exact ⟨rfl, HB2.out⟩
/-- the next character of a stream of the shelf -/
theorem nextAt_some {B m : Nat} {s : Sh} {w w1 : World} (h : ShAt B w m s) (ok : OkS s) (i : Nat) (hi : i < s.S.length) (j : Nat) (hp : PtR B w m s i (rdD s.S[i] j) w1) (hl : s.S[i].pl + j < gsz s.S[i].f s.S[i].wd (zsOf s s.S[i])) :
    Calls Try.prog 39 #[.pointer (some ⟨s.S[i].k, 0, none⟩)] w1 fun e w' => e = .returned (.tuple #[.int .u32 (gch s.S[i].f s.S[i].wd (zsOf s s.S[i]) (s.S[i].pl + j)), .bool true]) ∧ Hid (PtR B w m s i (rdD s.S[i] (j + 1)) w' ∧ Fm w1 w' (fun k => k = s.S[i].k) (fun k => k = s.S[i].k)) := by
  have ok1 := putS_ok ok i hi (rdD s.S[i] j) rfl rfl rfl rfl
  have hi1 : i < (putS s i (rdD s.S[i] j)).S.length := by show i < (s.S.set i _).length; rw [List.length_set]; exact hi
  have he1 : (putS s i (rdD s.S[i] j)).S[i] = rdD s.S[i] j := List.getElem_set_self _
  obtain ⟨v, hg, _⟩ := hp.1.ground ok1 (List.getElem_mem hi1)
  rw [he1] at hg
  refine (next_some (rdD s.S[i] j) hp.2.1 hg hl).mono ?_
  rintro e w' ⟨rfl, hs⟩
  refine ⟨rfl, hidden ⟨⟨?_, hs.1, hp.2.2.trans hs.2⟩, hs.2⟩⟩
  have := hp.1.setS ok1 i hi1 { rdD s.S[i] j with pl := (rdD s.S[i] j).pl + 1, rd := up32 (rdD s.S[i] j).rd } (by rw [he1]) hs
  have e2 : ({ putS s i (rdD s.S[i] j) with S := (putS s i (rdD s.S[i] j)).S.set i { rdD s.S[i] j with pl := (rdD s.S[i] j).pl + 1, rd := up32 (rdD s.S[i] j).rd } } : Sh) = putS s i (rdD s.S[i] (j + 1)) := by
    unfold putS
    simp only [List.set_set]
    rfl
  rw [e2] at this
  exact this
theorem nextAt_end {B m : Nat} {s : Sh} {w w1 : World} (h : ShAt B w m s) (ok : OkS s) (i : Nat) (hi : i < s.S.length) (j : Nat) (hp : PtR B w m s i (rdD s.S[i] j) w1) (hl : gsz s.S[i].f s.S[i].wd (zsOf s s.S[i]) ≤ s.S[i].pl + j) :
    Calls Try.prog 39 #[.pointer (some ⟨s.S[i].k, 0, none⟩)] w1 fun e w' => e = .returned (.tuple #[.int .u32 0, .bool false]) ∧ Hid (Below w1.heap.size w1 w') := by
  have ok1 := putS_ok ok i hi (rdD s.S[i] j) rfl rfl rfl rfl
  have hi1 : i < (putS s i (rdD s.S[i] j)).S.length := by show i < (s.S.set i _).length; rw [List.length_set]; exact hi
  have he1 : (putS s i (rdD s.S[i] j)).S[i] = rdD s.S[i] j := List.getElem_set_self _
  obtain ⟨v, hg, _⟩ := hp.1.ground ok1 (List.getElem_mem hi1)
  rw [he1] at hg
  exact (next_end (rdD s.S[i] j) hp.2.1 hg hl).mono (fun e w' hh => ⟨hh.1, hidden hh.2.below⟩)
theorem PtR.start {B m : Nat} {s : Sh} {w w1 : World} (h : ShAt B w m s) (i : Nat) (hi : i < s.S.length) (hb : Below w.heap.size w w1) : PtR B w m s i (rdD s.S[i] 0) w1 := by
  have e : rdD s.S[i] 0 = s.S[i] := rfl
  rw [e]
  refine ⟨?_, ((h.later hb).ss _ (List.getElem_mem hi)).2, Fm.same hb⟩
  have : putS s i s.S[i] = s := by unfold putS; rw [List.set_getElem_self]
  rw [this]
  exact h.later hb
theorem read_some {B m : Nat} {s : Sh} {w : World} (h : ShAt B w m s) (ok : OkS s) (i : Nat) (hi : i < s.S.length) (x : Int) (hx : s.S[i].n = x) (hr : rdB s.S[i].md = true) (hl : s.S[i].pl < gsz s.S[i].f s.S[i].wd (zsOf s s.S[i])) :
    Calls Try.prog 16 #[.pointer (some ⟨m, 0, none⟩), .int .i64 x] w fun e w' => e = .returned (.tuple #[.int .u32 (gch s.S[i].f s.S[i].wd (zsOf s s.S[i]) s.S[i].pl), .bool true, .int .i64 0]) ∧ Hid (PtR B w m s i (rdD s.S[i] 1) w') := by
  have HA := hidden (readerAt_some h ok i hi x hx hr)
  have HN : Hid (∀ w1, Below w.heap.size w w1 → _) := hidden (fun w1 hb => nextAt_some h ok i hi 0 (PtR.start h i hi hb) hl)
  clear h ok hx hr hl
  simp only [Nat.add_zero, Nat.zero_add] at HN
  generalize gch s.S[i].f s.S[i].wd (zsOf s s.S[i]) s.S[i].pl = V at *
  generalize s.S[i].k = KK at *
  go_enter Try.func16, Try.ntmps16
  go_wp2_with (first | (go_at_call 38; refine HA.out.mono ?_; rintro e w2 ⟨rfl, hb2⟩; have HB2 := hidden hb2; clear hb2) | (go_at_call 39; refine (HN.out _ HB2.out).mono ?_; rintro e w3 ⟨rfl, H3⟩) | fail)
  refine bodyPost_ret (v := .tuple #[.int .u32 V, .bool true, .int .i64 0]) (by simp [results, Try.results16, go_sem]) rfl ⟨rfl, ?_⟩
  exact hidden H3.out.1
theorem read_end {B m : Nat} {s : Sh} {w : World} (h : ShAt B w m s) (ok : OkS s) (i : Nat) (hi : i < s.S.length) (x : Int) (hx : s.S[i].n = x) (hr : rdB s.S[i].md = true) (hl : gsz s.S[i].f s.S[i].wd (zsOf s s.S[i]) ≤ s.S[i].pl) :
    Calls Try.prog 16 #[.pointer (some ⟨m, 0, none⟩), .int .i64 x] w fun e w' => e = .returned (.tuple #[.int .u32 0, .bool false, .int .i64 0]) ∧ Below w.heap.size w w' := by
  have HA := hidden (readerAt_some h ok i hi x hx hr)
  have HN : Hid (∀ w1, Below w.heap.size w w1 → _) := hidden (fun w1 hb => nextAt_end h ok i hi 0 (PtR.start h i hi hb) hl)
  clear h ok hx hr hl
  generalize s.S[i].k = KK at *
  go_enter Try.func16, Try.ntmps16
  go_wp2_with (first | (go_at_call 38; refine HA.out.mono ?_; rintro e w2 ⟨rfl, hb2⟩; have HB2 := hidden hb2; clear hb2) | (go_at_call 39; refine (HN.out _ HB2.out).mono ?_; rintro e w3 ⟨rfl, H3⟩) | fail)
  refine bodyPost_ret (v := .tuple #[.int .u32 0, .bool false, .int .i64 0]) (by simp [results, Try.results16, go_sem]) rfl ⟨rfl, ?_⟩
  exact HB2.out.trans (H3.out.mono HB2.out.size)
end Go.Proofs.Ytmohnopegacahaa
