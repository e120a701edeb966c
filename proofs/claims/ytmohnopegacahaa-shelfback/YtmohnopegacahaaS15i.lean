/- Layer 15, the program: New; a stream of a shelf; Tell, Read; a nil shelf. -/
import Derived.Test.YtmohnopegacahaaS15h
namespace Go.Proofs.Ytmohnopegacahaa
open Go.RowKit
set_option maxHeartbeats 1000000
set_option maxRecDepth 100000
set_option linter.unusedVariables false

def newS (most : Int) : Sh := ⟨most, none, [], 0, .slice none 0 0, [], []⟩
theorem new_ok (most : Int) (h : 0 ≤ most ∧ most ≤ 1048576) : OkS (newS most) :=
  ⟨List.Pairwise.nil, ⟨fun i j _ hj _ => by simp [newS] at hj⟩, by simp [newS], List.Pairwise.nil, List.Pairwise.nil, (by intro d hd; simp [newS] at hd), (by constructor <;> simp [newS]), (by intro d hd; simp [newS] at hd), h⟩
theorem new_any (most : Int) (w : World) (h : 0 ≤ most ∧ most ≤ 1048576) : Calls Try.prog 9 #[.int .i64 most] w fun e w' => e = .returned (.tuple #[.pointer (some ⟨w.heap.size, 0, none⟩), .int .i64 0]) ∧ Hid (ShAt w.heap.size w' w.heap.size (newS most) ∧ Below w.heap.size w w') := by
  have l0 : ¬ most < 0 := by omega
  have l1 : ¬ most > 1048576 := by omega
  have HE : Hid (ShAt w.heap.size (w.alloc (.cells #[.int .i64 most, .map none, .int .i64 0, .slice none 0 0] 70)) w.heap.size (newS most) ∧ Below w.heap.size w (w.alloc (.cells #[.int .i64 most, .map none, .int .i64 0, .slice none 0 0] 70))) := hidden
    ⟨⟨Nat.le_refl _, heap_alloc_new _ _, World.ownsRow_nil _ _ _ _, (by intro d hd; simp [newS] at hd), (by intro d hd; simp [newS] at hd), (by intro d hd; simp [newS] at hd), rfl⟩, (Below.refl _ _).alloc (Nat.le_refl _) _⟩
  clear h
  go_enter Try.func9, Try.ntmps9
  go_wp2
  go_ret2
  exact ⟨rfl, HE⟩
theorem at_some {B m : Nat} {s : Sh} {w : World} (h : ShAt B w m s) (ok : OkS s) (i : Nat) (hi : i < s.S.length) (x : Int) (hx : s.S[i].n = x) :
    Calls Try.prog 31 #[.pointer (some ⟨m, 0, none⟩), .int .i64 x] w fun e w' => e = .returned (.tuple #[.pointer (some ⟨s.S[i].k, 0, none⟩), .int .i64 0]) ∧ Below w.heap.size w w' := by
  obtain ⟨d0, d1, d2, d3, d5⟩ := h.cells
  rcases h.row.2 with ⟨_, h0⟩ | ⟨g, c, cur, hv, _⟩
  · omega
  have hr := h.row
  rw [hv] at hr d3
  have HS : Hid (∀ w1, Below w.heap.size w w1 → Calls Try.prog 50 #[.slice (some ⟨g, 0, none⟩) s.S.length c, .int .i64 x, .func (.func 51) #[] #[]] w1 fun e w' => e = .returned (.tuple #[.int .i64 i, .bool true]) ∧ Below w1.heap.size w1 w') := hidden (fun w1 hb => (search_any g c s.S x w1 B (own_later hr hb) (fun d hd => (h.ss d hd).2.later hb) ok.so (by have := ok.few; omega)).mono (by
    rintro e w' ⟨j, b, rfl, ⟨rfl, hj, hjx⟩ | ⟨rfl, hno⟩, hb'⟩
    · have : j = i := by
        rcases (show j < i ∨ j = i ∨ i < j by omega) with q | q | q
        · have := ok.so.rise j i q hi hj; omega
        · exact q
        · have := ok.so.rise i j q hj hi; omega
      subst this
      exact ⟨rfl, hb'⟩
    · exact absurd hx (hno _ (List.getElem_mem hi))))
  have HP : Hid (∀ w2, Below w.heap.size w w2 → w2.cell? ⟨m, 3, none⟩ = some (.slice (some ⟨g, 0, none⟩) s.S.length c) ∧ w2.cell? ⟨g, i, none⟩ = some (.pointer (some ⟨s.S[i].k, 0, none⟩))) := hidden (fun w2 hb => ⟨by have := (h.later hb).cells.2.2.2.1; rw [hv] at this; exact this, prow_cell (own_later hr hb) i hi⟩)
  have hl : (i : Int) < s.S.length := by omega
  clear h hx hr hv
  generalize s.S[i].k = KK at *
  generalize s.S.length = NN at *
  go_enter Try.func31, Try.ntmps31
  go_wp2_with (first | (go_at_call 50; refine (HS.out _ (Below.refl _ _)).mono ?_; rintro e w2 ⟨rfl, hb2⟩; obtain ⟨e3, e4⟩ := HP.out _ hb2; have HB2 := hidden hb2; clear hb2) | fail)
  go_ret2
  exact ⟨rfl, HB2.out⟩
theorem search_nil (x : Int) (w : World) :
    Calls Try.prog 50 #[.slice none 0 0, .int .i64 x, .func (.func 51) #[] #[]] w fun e w' => e = .returned (.tuple #[.int .i64 0, .bool false]) ∧ w' = w := by
  go_enter Try.func50, Try.ntmps50
  go_upto_region 3 with fail
  go_loopw [9, 10] (fun a b w' => a = .int .i64 0 ∧ b = .int .i64 0 ∧ w' = w) (fun _ _ _ => 0)
  case atStart => exact ⟨rfl, rfl, rfl⟩
  case round =>
    obtain ⟨rfl, rfl, rfl⟩ := hrel
    go_wp2
    go_ret2
    exact ⟨rfl, rfl⟩
theorem at_none {B m : Nat} {s : Sh} {w : World} (h : ShAt B w m s) (ok : OkS s) (x : Int) (hx : ∀ d ∈ s.S, d.n ≠ x) :
    Calls Try.prog 31 #[.pointer (some ⟨m, 0, none⟩), .int .i64 x] w fun e w' => e = .returned (.tuple #[.pointer none, .int .i64 5]) ∧ Below w.heap.size w w' := by
  obtain ⟨d0, d1, d2, d3, d5⟩ := h.cells
  have HS : Hid (Calls Try.prog 50 #[s.sv, .int .i64 x, .func (.func 51) #[] #[]] w fun e w' => ∃ j : Nat, e = .returned (.tuple #[.int .i64 j, .bool false]) ∧ Below w.heap.size w w') := hidden (by
    rcases h.row.2 with ⟨h1, h2⟩ | ⟨g, cap, cur, h1, _⟩
    · rw [h1]
      exact (search_nil x w).mono (by rintro e w' ⟨rfl, rfl⟩; exact ⟨0, rfl, Below.refl _ _⟩)
    · have hr := h.row
      rw [h1] at hr ⊢
      refine (search_any g cap s.S x w B hr (fun d hd => (h.ss d hd).2) ok.so (by have := ok.few; omega)).mono ?_
      rintro e w' ⟨j, b, rfl, ⟨rfl, hj, hjx⟩ | ⟨rfl, hno⟩, hb'⟩
      · exact absurd hjx (hx _ (List.getElem_mem hj))
      · exact ⟨j, rfl, hb'⟩)
  clear h hx
  go_enter Try.func31, Try.ntmps31
  go_wp2_with (first | (go_at_call 50; refine HS.out.mono ?_; rintro e w2 ⟨jj, rfl, hb2⟩; have HB2 := hidden hb2; clear hb2) | fail)
  go_ret2
  exact ⟨rfl, HB2.out⟩
theorem at_nil (x : Int) (w : World) : Calls Try.prog 31 #[.pointer none, .int .i64 x] w fun e w' => e = .returned (.tuple #[.pointer none, .int .i64 8]) ∧ w' = w := by
  go_enter Try.func31, Try.ntmps31
  go_wp2
  go_ret2
  exact ⟨rfl, rfl⟩
/-- what a stream's ground holds -/
def grF (F : List Fl) (g : Nat) : List Int := match F.find? (fun f => f.b == g) with
  | some f => f.zs
  | none => []
def grG (G : List Bu) (g : Nat) : List Int := match G.find? (fun f => f.b == g) with
  | some f => f.zs
  | none => []
def zsOf (s : Sh) (d : Sm) : List Int := if d.f then grF s.F d.g else grG s.G d.g
theorem grF_at {F : List Fl} (hk : F.Pairwise (fun a b => Apart a.b a.v b.b b.v)) {f : Fl} (hf : f ∈ F) : grF F f.b = f.zs := by
  induction F with
  | nil => cases hf
  | cons a l ih =>
    unfold grF
    rw [List.find?_cons]
    by_cases e : a.b = f.b
    · rcases List.mem_cons.1 hf with q | q
      · subst q; simp
      · exact absurd e ((List.pairwise_cons.1 hk).1 f q).1
    · rcases List.mem_cons.1 hf with q | q
      · subst q; exact absurd rfl e
      · have e2 : (a.b == f.b) = false := by simp [e]
        simp only [e2]
        exact ih (List.pairwise_cons.1 hk).2 q
theorem grG_at {F : List Bu} (hk : F.Pairwise (fun a b => Apart a.b a.v b.b b.v)) {f : Bu} (hf : f ∈ F) : grG F f.b = f.zs := by
  induction F with
  | nil => cases hf
  | cons a l ih =>
    unfold grG
    rw [List.find?_cons]
    by_cases e : a.b = f.b
    · rcases List.mem_cons.1 hf with q | q
      · subst q; simp
      · exact absurd e ((List.pairwise_cons.1 hk).1 f q).1
    · rcases List.mem_cons.1 hf with q | q
      · subst q; exact absurd rfl e
      · have e2 : (a.b == f.b) = false := by simp [e]
        simp only [e2]
        exact ih (List.pairwise_cons.1 hk).2 q
theorem ShAt.ground {B m : Nat} {s : Sh} {w : World} (h : ShAt B w m s) (ok : OkS s) {d : Sm} (hd : d ∈ s.S) : ∃ v, GAt B w d.f d.g v (zsOf s d) ∧ (d.f = true → ∃ f ∈ s.F, f.b = d.g ∧ f.v = v) ∧ (d.f = false → ∃ g ∈ s.G, g.b = d.g ∧ g.v = v) := by
  obtain ⟨o1, o2⟩ := ok.on d hd
  unfold GAt zsOf
  rcases (show d.f = false ∨ d.f = true by cases d.f <;> simp) with hf | hf
  · obtain ⟨g, hg, e⟩ := o2 hf
    simp only [hf]
    refine ⟨g.v, ?_, fun q => (by cases q), fun _ => ⟨g, hg, e, rfl⟩⟩
    rw [← e]
    have := grG_at ok.gk hg
    simp only [Bool.false_eq_true, ↓reduceIte, this]
    exact h.gs g hg
  · obtain ⟨g, hg, e⟩ := o1 hf
    simp only [hf]
    refine ⟨g.v, ?_, fun _ => ⟨g, hg, e, rfl⟩, fun q => (by cases q)⟩
    rw [← e]
    have := grF_at ok.fk hg
    simp only [↓reduceIte, this]
    exact h.fs g hg
theorem tell_some {B m : Nat} {s : Sh} {w : World} (h : ShAt B w m s) (ok : OkS s) (i : Nat) (hi : i < s.S.length) (x : Int) (hx : s.S[i].n = x) :
    Calls Try.prog 15 #[.pointer (some ⟨m, 0, none⟩), .int .i64 x] w fun e w' => e = .returned (.tuple #[.int .i64 s.S[i].pl, .int .i64 (gsz s.S[i].f s.S[i].wd (zsOf s s.S[i]) : Nat), .int .i64 0]) ∧ Below w.heap.size w w' := by
  have HA := hidden (at_some h ok i hi x hx)
  have HC : Hid (∀ w1, Below w.heap.size w w1 → w1.cell? ⟨s.S[i].k, 4, none⟩ = some (.int .i64 s.S[i].pl)) := hidden (fun w1 hb => ((h.ss _ (List.getElem_mem hi)).2.later hb).cells.2.2.2.2.1)
  have HZ : Hid (∀ w1, Below w.heap.size w w1 → Calls Try.prog 29 #[.pointer (some ⟨s.S[i].k, 0, none⟩)] w1 fun e w' => e = .returned (.int .i64 (gsz s.S[i].f s.S[i].wd (zsOf s s.S[i]) : Nat)) ∧ Hid (Below w.heap.size w w')) := hidden (fun w1 hb => by
    obtain ⟨v, hg, _⟩ := (h.later hb).ground ok (List.getElem_mem hi)
    exact (osize_any _ ((h.ss _ (List.getElem_mem hi)).2.later hb) hg).mono (fun e w' hh => ⟨hh.1, hidden (hb.trans (hh.2.below.mono hb.size))⟩))
  clear h ok hx
  generalize gsz s.S[i].f s.S[i].wd (zsOf s s.S[i]) = N at *
  generalize s.S[i].k = KK at *
  generalize s.S[i].pl = PP at *
  go_enter Try.func15, Try.ntmps15
  go_upto_region 2 with (first | (go_at_call 31; refine HA.out.mono ?_; rintro e w2 ⟨rfl, hb2⟩; have HB2 := hidden hb2; have e4 := HC.out _ hb2; clear hb2) | fail)
  go_upto_region 4 with fail
  have HZ1 := hidden (HZ.out w2.drew HB2.out.drew)
  have HZ0 := hidden (HZ.out w2 HB2.out)
  have e5 := HC.out _ HB2.out.drew
  go_region_held3 (fun w' => w'.cell? ⟨KK, 4, none⟩ = some (.int .i64 PP)) (first | assumption | go_keep) (first | (go_at_call 29; refine HZ1.out.mono ?_; rintro e w3 ⟨rfl, HB3⟩; have e6 := HC.out _ HB3.out) | fail)
  all_goals (try go_wp2)
  all_goals refine bodyPost_ret (v := .tuple #[.int .i64 PP, .int .i64 N, .int .i64 0]) (by simp [results, Try.results15, go_sem]) rfl ⟨rfl, ?_⟩
  all_goals first | exact HB3.out | exact HB3.out.drew
end Go.Proofs.Ytmohnopegacahaa
