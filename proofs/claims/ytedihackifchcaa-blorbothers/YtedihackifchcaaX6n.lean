/- The page's example (the laws' live), and contracts of the document's Same and Huge over resources. -/
import Derived.Test.YtedihackifchcaaX6m
import Derived.Deep.QuietTactic
import Derived.BigQuiet
import Derived.Lib.SlBytesConst
namespace Go.Proofs.Ytedihackifchcaa
open Go.RowKit
set_option maxHeartbeats 1000000
set_option maxRecDepth 100000
set_option linter.unusedVariables false

theorem num6 (n : Int) (w : World) : Calls Try.prog 16 #[.int .i64 n] w fun e w' => e = .returned (.int .i64 n) ∧ w' = w := by
  go_enter Try.func16, Try.ntmps16
  go_wp2
  go_ret
  exact ⟨rfl, rfl⟩
abbrev liveD : List Int := [71, 108, 117, 108, 33]
abbrev liveR (g : Nat) : Rk := ⟨EXEC, 0, GLUL, some ⟨g, 0, none⟩, 5, 5, liveD⟩
abbrev liveS : List Sr := [(EXEC, 0, GLUL, liveD)]
theorem live_map (g : Nat) : [liveR g].map srOf = liveS := rfl
theorem id_exec : IsId EXEC := ⟨rfl, by decide⟩
theorem id_glul : IsId GLUL := ⟨rfl, by decide⟩
theorem liveD_ok : OkB liveD := by unfold OkB liveD; decide
theorem live_check (g : Nat) : checkR [liveR g] = 0 := by
  have h1 : AllIdR [liveR g] := fun r hr => by rw [List.mem_singleton.1 hr]; exact ⟨id_exec, id_glul⟩
  have h2 : ApartR [liveR g] := List.pairwise_singleton _ _
  unfold checkR
  rw [if_neg (not_not_intro h1), if_neg (by simp), if_neg (not_not_intro h2)]
theorem live_sz (g : Nat) : sizes ([liveR g].map ckOf) ≤ 900000 := by
  have : sizes ([liveR g].map ckOf) = 14 := by kernel_rfl
  omega
theorem live_lay : LayOk liveS := by
  refine ⟨fun s hs => ?_, by decide, List.pairwise_singleton _ _, ?_⟩
  · rw [List.mem_singleton.1 hs]; exact ⟨id_exec, id_glul, by decide, by decide, liveD_ok⟩
  · have : ssz (liveS.map ckS) = 14 := by kernel_rfl
    omega
theorem live_len : (layS liveS).length = 50 := by
  rw [layS_len live_lay]
  have : ssz (liveS.map ckS) = 14 := by kernel_rfl
  rw [this]; rfl
theorem marked_cell (w : World) (C : Array Value) (t : TypeId) (f : Nat × Nat) (i : Nat) : (w.alloc (.cells C t f)).cell? ⟨w.heap.size, i, none⟩ = C[i]? := by
  have hg : (w.alloc (.cells C t f)).heap[w.heap.size]? = some (.cells C t f) := heap_alloc_new _ _
  unfold World.cell?
  simp only
  rw [hg]
  rfl
theorem live_rks (w : World) : Rks ((w.alloc (.cells #[.int .u8 71, .int .u8 108, .int .u8 117, .int .u8 108, .int .u8 33] 5 (5, 6))).alloc (.cells #[.string EXEC, .int .u32 0, .string GLUL, .slice (some ⟨w.heap.size, 0, none⟩) 5 5] 49)) (some ⟨w.heap.size + 1, 0, none⟩) 1 1 [liveR w.heap.size] := by
  refine ⟨rfl, Nat.le_refl _, .inr ⟨_, _, rfl, fun i hi => ?_⟩, fun r hr => ?_⟩
  · match i, hi with
    | 0, _ => exact ⟨by simp, by simp, by simp, by simp⟩
  · rw [List.mem_singleton.1 hr]
    refine ⟨⟨rfl, Nat.le_refl _, .inr ⟨_, rfl, fun i hi => ?_⟩⟩, liveD_ok, Int.le_refl _, by show (0 : Int) ≤ 4294967295; decide⟩
    rw [plain_add, Nat.zero_add]
    refine Lib.cell?_alloc_marked _ ?_
    rw [marked_cell]
    match i, hi with
    | 0, _ => rfl
    | 1, _ => rfl
    | 2, _ => rfl
    | 3, _ => rfl
    | 4, _ => rfl
theorem abc_game : gameR [97, 98, 99] = ([], 63, 0) := by
  unfold gameR
  rw [if_neg, if_neg]
  · intro e
    have := congrArg ByteArray.size e
    exact absurd this (by decide)
  · intro e
    have := congrArg ByteArray.size e
    exact absurd this (by decide)
theorem abc_bs (w : World) : Bs (w.alloc (.cells #[.int .u8 97, .int .u8 98, .int .u8 99] 5 (3, 4))) w.heap.size 0 3 [97, 98, 99] := by
  refine ⟨rfl, fun i hi => ?_⟩
  rw [Nat.zero_add, marked_cell]
  match i, hi with
  | 0, _ => rfl
  | 1, _ => rfl
  | 2, _ => rfl
theorem abc_ok : OkB [97, 98, 99] := by unfold OkB; decide
theorem own_bs {w : World} {B g n cap : Nat} {zs : List Int} (h : w.ownsRow B 5 1 (.slice (some ⟨g, 0, none⟩) n cap) n (bytesV zs)) : Bs w g 0 n zs := by
  refine ⟨?_, fun i hi => owned_cells h i hi⟩
  have := h.1
  simpa [bytesV] using this
theorem Bs.later' {w w' : World} {g o L : Nat} {zs : List Int} (h : Bs w g o L zs) (hb : Below w.heap.size w w') : Bs w' g o L zs := h.later hb
theorem rks_own {w : World} {B : Nat} {ao : Option Addr} {cv : Nat} {rs : List Rk} (h : GotR B w (.slice ao rs.length cv) rs) (hok : ∀ r ∈ rs, OkB r.d) (hx : ∀ r ∈ rs, 0 ≤ r.x ∧ r.x ≤ 4294967295) : Rks w ao rs.length cv rs := by
  obtain ⟨h1, h2⟩ := h
  have hat : ∀ (rs : List Rk) (i : Nat) (h : i < rs.length), (rksV rs)[i * 4]? = some (.string rs[i].u) ∧ (rksV rs)[i * 4 + 1]? = some (.int .u32 rs[i].x) ∧ (rksV rs)[i * 4 + 2]? = some (.string rs[i].id) ∧ (rksV rs)[i * 4 + 3]? = some (.slice rs[i].a rs[i].l rs[i].c) := by
    intro rs
    induction rs with
    | nil => intro i h; simp at h
    | cons r rs ih =>
      intro i h
      have e : rksV (r :: rs) = .string r.u :: .int .u32 r.x :: .string r.id :: .slice r.a r.l r.c :: rksV rs := rfl
      cases i with
      | zero => rw [e]; exact ⟨rfl, rfl, rfl, rfl⟩
      | succ i =>
        have := ih i (by simpa using h)
        rw [e, show (i + 1) * 4 = i * 4 + 1 + 1 + 1 + 1 by omega]
        simpa using this
  refine ⟨rfl, ?_, ?_, fun r hr => ⟨(reads_own (h2 r hr)).1, hok r hr, hx r hr⟩⟩
  · rcases h1.2 with ⟨e, h0⟩ | ⟨g, cap, cur, e, hb, hg, hnc, hm, hs, ht⟩
    · simp only [Value.slice.injEq] at e; omega
    · simp only [Value.slice.injEq] at e; omega
  · rcases h1.2 with ⟨e, h0⟩ | ⟨g, cap, cur, e, hb, hg, hnc, hm, hs, ht⟩
    · exact .inl (by omega)
    · simp only [Value.slice.injEq] at e
      obtain ⟨rfl, -, -⟩ := e
      refine .inr ⟨g, 0, rfl, fun i hi => ?_⟩
      have hc := hat rs i hi
      have e0 := h1.cells (g := g) rfl (i * 4) _ hc.1
      have e1 := h1.cells (g := g) rfl (i * 4 + 1) _ hc.2.1
      have e2 := h1.cells (g := g) rfl (i * 4 + 2) _ hc.2.2.1
      have e3 := h1.cells (g := g) rfl (i * 4 + 3) _ hc.2.2.2
      rw [plain_add] at e0 e1 e2 e3
      exact ⟨e0, by rwa [← Nat.add_assoc] at e1, by rwa [← Nat.add_assoc] at e2, by rwa [← Nat.add_assoc] at e3⟩
theorem str5 : strA liveD = ⟨#[71, 108, 117, 108, 33]⟩ := by kernel_rfl
theorem live_any (w : World) : Calls Try.prog 11 #[] w fun e w' => e = .returned (.bool true) ∧ Below w.heap.size w w' := by
  have hW : Below w.heap.size w ((w.alloc (.cells #[.int .u8 71, .int .u8 108, .int .u8 117, .int .u8 108, .int .u8 33] 5 (5, 6))).alloc (.cells #[.string EXEC, .int .u32 0, .string GLUL, .slice (some ⟨w.heap.size, 0, none⟩) 5 5] 49)) := ((Below.refl _ _).alloc (Nat.le_refl _) _).alloc (by simp) _
  have HW := hidden hW
  have HLay := hidden (lay_any (some ⟨w.heap.size + 1, 0, none⟩) 1 1 [liveR w.heap.size] _ (live_rks w) (by decide) (live_sz _))
  rw [live_check, live_map] at HLay
  have hcv := Lib.run_convert_bytes_const (P := Try.prog) w 22 5 #[.int .u8 71, .int .u8 108, .int .u8 117, .int .u8 108, .int .u8 33] 5 5 Try.underlying22 Try.underlying5
  simp only [List.size_toArray, List.length_cons, List.length_nil, Nat.zero_add, Nat.reduceAdd] at hcv
  clear hW
  go_enter Try.func11, Try.ntmps11
  go_wp2_with fail
  refine HLay.out.mono ?_
  rintro e w1 ⟨hb1, ⟨hne, rfl⟩ | ⟨-, v, rfl, ho⟩⟩
  · exact absurd rfl hne
  rw [live_len] at ho
  obtain ⟨g, c, rfl, hgc, hgb⟩ := owned_shape ho (by decide)
  have hB := own_bs ho
  have hb1' := HW.out.trans (hb1.mono HW.out.size)
  have HB1 := hidden hb1'
  have HRd := hidden (read_any g 0 50 c (layS liveS) w1 hB (layS_ok live_lay) (by decide) hgc)
  rw [read_lay live_lay, live_len] at HRd
  have HBs := hidden hB
  clear ho hb1 hb1' hB HLay HW
  go_wp2_with fail
  refine HRd.out.mono ?_
  rintro e w2 ⟨hb2, ⟨hne, rfl⟩ | ⟨-, ao, cv, rs, rfl, hgr, hmap, hrok, -⟩⟩
  · exact absurd rfl hne
  obtain ⟨r, rfl⟩ : ∃ r, rs = [r] := by
    cases rs with
    | nil => simp at hmap
    | cons r t =>
      cases t with
      | nil => exact ⟨r, rfl⟩
      | cons => simp at hmap
  have hru : r.u = EXEC := by
    have : srOf r = (EXEC, 0, GLUL, liveD) := by simpa using hmap
    exact congrArg (fun s => s.1) this
  have hrx : r.x = 0 := by
    have : srOf r = (EXEC, 0, GLUL, liveD) := by simpa using hmap
    exact congrArg (fun s => s.2.1) this
  have hrk := rks_own hgr hrok (fun q hq => by rw [List.mem_singleton.1 hq, hrx]; decide)
  obtain ⟨b, off, rfl, hcell⟩ := hrk.at (by simp)
  have q0 := (hcell 0 (by simp)).1
  simp only [Nat.zero_mul, Nat.add_zero, List.getElem_cons_zero, hru] at q0
  have hcv := hrk.2.1
  have HB2 := hidden (HB1.out.trans (hb2.mono HB1.out.size))
  have hBs2 := HBs.out.later hb2
  have HGm := hidden (game_any g 0 50 c (layS liveS) w2 hBs2 (layS_ok live_lay) (by decide) hgc)
  rw [game_lay live_lay 0 (by decide) liveD rfl, live_len] at HGm
  simp only [List.length_singleton] at hcv ⊢
  clear hgr hmap hrok hrk hcell hb2 hBs2 HBs HB1 HRd hru hrx
  go_wp2_with fail
  refine HGm.out.mono ?_
  rintro e w3 ⟨hb3, ⟨hne, rfl⟩ | ⟨-, a3, l3, c3, rfl, ho3, -⟩⟩
  · exact absurd rfl hne
  obtain ⟨hrd3, -⟩ := reads_own ho3
  have q0' := cellLater hb3 q0
  have HB3 := hidden (HB2.out.trans (hb3.mono HB2.out.size))
  have hs3 := HB3.out.size
  have hst : Below w3.heap.size w3 (w3.alloc (.cells #[.int .u8 97, .int .u8 98, .int .u8 99] 5 (3, 4))) := (Below.refl _ _).alloc (Nat.le_refl _) _
  have HB4 := hidden (HB3.out.trans (hst.mono hs3))
  have HGa := hidden (game_any w3.heap.size 0 3 3 [97, 98, 99] _ (abc_bs w3) abc_ok (by decide) (by decide))
  rw [abc_game] at HGa
  have HR3 := hidden (hrd3.later hst)
  have HQ := hidden (cellLater hst q0')
  have hcw := Lib.run_convert_bytes_const (P := Try.prog) w3 22 5 #[.int .u8 97, .int .u8 98, .int .u8 99] 3 3 Try.underlying22 Try.underlying5
  simp only [List.size_toArray, List.length_cons, List.length_nil, Nat.zero_add, Nat.reduceAdd] at hcw
  clear ho3 hrd3 q0 q0' hb3 hst HGm HB2 HB3
  go_wp2_with fail
  refine HGa.out.mono ?_
  rintro e w4 ⟨hb4, hcase⟩
  obtain rfl : e = .returned (.tuple #[.slice none 0 0, .int .i64 63, .int .i64 0]) := by
    rcases hcase with ⟨-, h⟩ | ⟨hz, -⟩
    · exact h
    · exact absurd hz (by decide)
  clear hcase
  have q := cellLater hb4 HQ.out
  have e3 : (convert 22 9 (.slice a3 l3 c3)).run Try.prog w4 = .ok (.string ⟨#[71, 108, 117, 108, 33]⟩) w4 := by
    have := conv_reads w4 _ _ _ _ liveD_ok (HR3.out.later hb4)
    rw [← str5]; exact this
  have HBF := hidden (HB4.out.trans (hb4.mono HB4.out.size))
  clear HQ HR3 hb4 HB4 HGa
  go_wp2_with (go_at_call 16; refine (num6 _ _).mono ?_; rintro e w9 ⟨rfl, hw⟩; obtain rfl := hw.symm)
  go_ret
  exact ⟨rfl, HBF.out⟩
end Go.Proofs.Ytedihackifchcaa
