/- The document's stack: a row cut short, its Leave. -/
import Derived.Test.YthhkennomnmjkaaT10s
namespace Go.Proofs.Ythhkennomnmjkaa
open Go.RowKit
set_option maxHeartbeats 1000000
set_option maxRecDepth 100000
set_option linter.unusedVariables false

/-- append([]byte{}, row...) in a region that draws -/
theorem step_copyOf {w : World} {ops : Array Oper} {o : Oper} {a : Act} {K : Act → World → Prop} {Q : Exit → Act → World → Prop} {E : Prop} (hgd : o.guard = none) (s x : Operand)
    (ho : o.op = .call { callee := .builtin .append, args := #[s, x], argTypes := #[24, 24] })
    (base g m c0 : Nat) (sa : Option Addr) (ds : List Int) (hs : a.eval s = .slice (some ⟨g, 0, none⟩) 0 0) (hx : a.eval x = .slice sa m c0) (hown : w.ownsRow base 5 1 (.slice (some ⟨g, 0, none⟩) 0 0) 0 (bytesV [])) (hr : Reads w sa m c0 ds) (h63 : m ≤ 4294967296) (hbase : base ≤ w.heap.size)
    (h : ∀ g' c' w', w'.ownsRow base 5 1 (.slice (some ⟨g', 0, none⟩) m c') m (bytesV ds) → Below base w w' → K (a.put o.dst (.slice (some ⟨g', 0, none⟩) m c')) w') :
    if Region.wanted o (yielded ops a.tmps) = true then Oper.wp Try.prog o a w K Q else E := by
  have hw : Region.wanted o (yielded ops a.tmps) = true := by simp [Region.wanted, hgd]
  rw [if_pos hw]
  obtain ⟨g', c', w', hrun, h1, h2⟩ := app_reads base g 0 0 m c0 sa [] ds w hown hr (by omega) hbase
  rw [Nat.zero_add, List.nil_append] at h1
  rw [Nat.zero_add] at hrun
  have hK := h g' c' w' h1 (h2.below hbase (fun k e => (hown.lt k e).1))
  unfold Oper.wp
  simp [execOp, ho, resolve, invoke, builtin, hs, hx, hrun, Result.andThen]
  exact hK
theorem made0 (w : World) : (w.alloc (.cells #[] 5)).ownsRow w.heap.size 5 1 (.slice (some ⟨w.heap.size, 0, none⟩) 0 0) 0 (bytesV []) :=
  World.ownsRow_made (base := w.heap.size) (e := 5) (size := 1) w #[] 0 (Nat.le_refl _) (Nat.zero_le _) (by simp)
/-- what a walk asks that cuts the row short -/
structure Cut (B : Nat) (w : World) (m g L c k : Nat) (s : Ks) : Prop where
  rd : ∀ wx, Below w.heap.size w wx → Reads wx (some ⟨g, 0, none⟩) k c (s.bs.take k)
  st : ∀ (w1 : World) (g1 c1 : Nat), Below w.heap.size w w1 → w1.ownsRow w.heap.size 5 1 (.slice (some ⟨g1, 0, none⟩) k c1) k (bytesV (s.bs.take k)) → (w1.cell? ⟨m, 0, none⟩ = some (.slice (some ⟨g, 0, none⟩) L c) ∧ w1.frozen? ⟨m, 0, none⟩ = false) ∧ DAt B (w1.setCell ⟨m, 0, none⟩ (.slice (some ⟨g1, 0, none⟩) k c1)) m (.slice (some ⟨g1, 0, none⟩) k c1) { s with bs := s.bs.take k } ∧ Fm w (w1.setCell ⟨m, 0, none⟩ (.slice (some ⟨g1, 0, none⟩) k c1)) (TK m (.slice (some ⟨g, 0, none⟩) L c)) (TK m (.slice (some ⟨g1, 0, none⟩) k c1))
theorem DAt.cut {B : Nat} {w : World} {m g c : Nat} {s : Ks} (h : DAt B w m (.slice (some ⟨g, 0, none⟩) s.bs.length c) s) (hB : B ≤ w.heap.size) (k : Nat) (hk : k ≤ s.bs.length) : Cut B w m g s.bs.length c k s := by
  have hl : (s.bs.take k).length = k := by rw [List.length_take]; omega
  have hr := own_reads h.row
  have hc : s.bs.length ≤ c := hr.2.1
  refine ⟨fun wx hb => ?_, fun w1 g1 c1 hb ho => ?_⟩
  · by_cases h0 : 0 < s.bs.length
    · obtain ⟨g2, o2, e2, hB2⟩ := hr.bs h0
      cases e2
      have := hB2.sub 0 k c (by omega) (by omega)
      simp only [seg, List.drop_zero, Nat.add_zero] at this
      exact this.later hb
    · obtain rfl : k = 0 := by omega
      have h1 : s.bs = [] := List.eq_nil_of_length_eq_zero (by omega)
      have := hr.later hb
      rw [h1] at this ⊢
      simpa using this
  · obtain ⟨g1', g2'⟩ := h.fresh hB hb (by rw [hl]; exact ho)
    obtain ⟨k0, _, _, _, kf⟩ := (h.later hb).cells
    exact ⟨⟨k0, kf 0⟩, g1', g2'⟩
theorem dLeave_off (B m : Nat) (v : Value) (s : Ks) (w : World) (h : DAt B w m v s) (hon : s.on = false) :
    Calls Try.prog 37 #[.pointer (some ⟨m, 0, none⟩)] w fun e w' => e = .returned (.int .i64 102) ∧ w' = w := by
  obtain ⟨a, c, rfl, dc⟩ := h.dc
  have c3 := dc.c3
  rw [hon] at c3
  clear h dc
  go_enter Try.func37, Try.ntmps37
  go_wp2
  go_ret
  exact ⟨rfl, rfl⟩
theorem dLeave_good (B m : Nat) (v : Value) (s : Ks) (w : World) (h : DAt B w m v s) (hB : B ≤ w.heap.size) (ok : OkK s) (hon : s.on = true) :
    Calls Try.prog 37 #[.pointer (some ⟨m, 0, none⟩)] w fun e w' => e = .returned (.int .i64 0) ∧ LeftD B w w' m v ⟨s.size, s.bs.take s.fr, 0, false⟩ := by
  have hmo := ok.most
  have hsz := ok.sz
  have hbd := (ok.bd hon).1
  obtain ⟨a, c, rfl, dc⟩ := h.dc
  obtain ⟨g, rfl⟩ := DC.isSome (w := w) (m := m) h (by omega)
  have HC := hidden (h.cut hB s.fr (by omega))
  have hcc : s.bs.length ≤ c := (own_reads h.row).2.1
  have c0 := dc.c0
  have c2 := dc.c2
  have c3 := dc.c3
  rw [hon] at c3
  have a0 : (w.alloc (.cells #[] 5)).cell? ⟨m, 0, none⟩ = some (.slice (some ⟨g, 0, none⟩) s.bs.length c) := cellLater ((Below.refl _ _).alloc (Nat.le_refl _) _) c0
  have a2 : (w.alloc (.cells #[] 5)).cell? ⟨m, 2, none⟩ = some (.int .i64 s.fr) := cellLater ((Below.refl _ _).alloc (Nat.le_refl _) _) c2
  clear dc h
  have HE : Hid (∀ (wz : World) (v1 : Value), DAt B wz m v1 { s with bs := s.bs.take s.fr } → Fm w wz (TK m (.slice (some ⟨g, 0, none⟩) s.bs.length c)) (TK m v1) → LeftD B w ((wz.setCell ⟨m, 2, none⟩ (.int .i64 0)).setCell ⟨m, 3, none⟩ (.bool false)) m (.slice (some ⟨g, 0, none⟩) s.bs.length c) ⟨s.size, s.bs.take s.fr, 0, false⟩) := fun wz v1 hd f => by
    obtain ⟨p1, p2⟩ := hd.set2 0
    obtain ⟨q1, q2⟩ := p1.set3 false
    exact ⟨v1, q1, (f.trans p2).trans q2⟩
  have hb2 : s.fr ≤ s.bs.length := by omega
  clear ok
  generalize hLL : s.bs.length = L at *
  clear hLL hbd
  have hFc : s.fr ≤ c := by omega
  go_enter Try.func37, Try.ntmps37
  go_wp2
  go_region_law (first | (refine step_copyOf (by rfl) _ _ (by rfl) w.heap.size _ s.fr c (some ⟨g, 0, none⟩) _ (by rfl) (by rfl) (by first | exact made0 _ | exact own_later (made0 w) ((Below.refl _ _).drew)) (HC.out.rd _ (by first | exact ((Below.refl _ _).drew).alloc (Nat.le_refl _) _ | exact ((Below.refl _ _).alloc (Nat.le_refl _) _).drew)) (by omega) (by simp) ?_; intro g1 c1 w1 ho1 hb1; obtain ⟨⟨q0, qf⟩, p1, p2⟩ := HC.out.st _ _ _ (Below.trans (by first | exact ((Below.refl _ _).drew).alloc (Nat.le_refl _) _ | exact ((Below.refl _ _).alloc (Nat.le_refl _) _).drew) hb1) ho1; have G := hidden (And.intro p1 p2); clear p1 p2 ho1 hb1) | fail)
  all_goals (
    generalize hW : w1.setCell ⟨m, 0, none⟩ (.slice (some ⟨g1, 0, none⟩) s.fr c1) = w6 at *
    clear hW
    obtain ⟨_, _, k2, k3, kf⟩ := G.out.1.cells
    have kf2 := kf 2
    have kf3 := kf 3
    have HLF := hidden (HE.out _ _ G.out.1 G.out.2)
    clear kf
    go_wp2
    go_ret
    exact ⟨rfl, HLF.out⟩)
theorem dLeave_any (B m : Nat) (v : Value) (s : Ks) (w : World) (h : DAt B w m v s) (hB : B ≤ w.heap.size) (ok : OkK s) :
    Calls Try.prog 37 #[.pointer (some ⟨m, 0, none⟩)] w fun e w' => e = .returned (.int .i64 (leaveE s)) ∧ LeftD B w w' m v (leaveS s) := by
  unfold leaveS leaveE
  cases hon : s.on with
  | false =>
    have e0 : lackE s 0 = 102 := by unfold lackE; rw [hon]; simp
    rw [e0]
    refine (dLeave_off B m v s w h hon).mono ?_
    rintro e w' ⟨rfl, rfl⟩
    exact ⟨rfl, LeftD.same h (Below.refl _ _)⟩
  | true =>
    rw [lack0 hon]
    exact dLeave_good B m v s w h hB ok hon
end Go.Proofs.Ythhkennomnmjkaa
