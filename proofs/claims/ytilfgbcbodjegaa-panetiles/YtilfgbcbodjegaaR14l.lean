/- Layer 14, the document: a window opened beside another one. -/
import Derived.Test.YtilfgbcbodjegaaR14k
import Derived.Test.YtilfgbcbodjegaaI14d
namespace Go.Proofs.Ytilfgbcbodjegaa
open Go.RowKit
set_option maxHeartbeats 1000000
set_option maxRecDepth 100000
set_option linter.unusedVariables false

theorem step_appD2 {w : World} {ops : Array Oper} {o : Oper} {a : Act} {K : Act → World → Prop} {Q : Exit → Act → World → Prop} {E : Prop} (hgd : o.guard = none) (s x : Operand)
    (ho : o.op = .call { callee := .builtin .append, args := #[s, x], argTypes := #[44, 44] })
    (base n : Nat) (v : Value) (L : List Wd) (hn : n = L.length) (hs : a.eval s = v) (hown : w.ownsRow base 66 8 v n (wdsV L))
    (ad : Addr) (c : Nat) (d1 d2 : Wd) (hx : a.eval x = .slice (some ad) 2 c) (hnews : ∀ j u, (wdsV [d1, d2])[j]? = some u → w.cell? (ad.add j) = some u)
    (hsm : n ≤ 1000) (hbase : base ≤ w.heap.size)
    (h : ∀ a' c' w', w'.ownsRow base 66 8 (.slice a' (n + 2) c') (n + 2) (wdsV (L ++ [d1, d2])) → Hid (Fm w w' (fun k => v.ownBlock = some k) (fun k => (Value.slice a' (n + 2) c').ownBlock = some k)) → K (a.put o.dst (.slice a' (n + 2) c')) w') :
    if Region.wanted o (yielded ops a.tmps) = true then Oper.wp Try.prog o a w K Q else E := by
  have hw : Region.wanted o (yielded ops a.tmps) = true := by simp [Region.wanted, hgd]
  rw [if_pos hw]
  obtain ⟨i0, hi, hz0, hz1, hz2⟩ := dwd_parts
  obtain ⟨v', w', hr, h2, h3, h4⟩ := run_append_at (P := Try.prog) (w := w) base 44 o.type 66 i0 _ 8 64 Try.underlying44 hi hz0 hz1 hz2 rfl (by decide) v n (wdsV L) hown ad 2 c (wdsV [d1, d2]) rfl hnews (wdsV_one [d1, d2]) (by unfold maxLen; omega) (by omega) hbase (by omega)
  rw [← wdsV_app] at h2
  obtain ⟨a', c', rfl⟩ := own_slice h2
  have hK := h a' c' w' h2 (fm_grown h3 h4)
  unfold Oper.wp
  simp [execOp, ho, resolve, invoke, builtin, hs, hx, hr, Result.andThen]
  exact hK
theorem box2_cells {w : World} {g : Nat} {d1 d2 : Wd} (h : w.heap[g]? = some (.cells (wdsV [d1, d2]).toArray 66 (0, 0))) : ∀ j u, (wdsV [d1, d2])[j]? = some u → w.cell? ((⟨g, 0, none⟩ : Addr).add j) = some u := by
  intro j u hj
  rw [Addr.add_lit, Nat.zero_add]
  simp only [World.cell?, h]
  simpa using hj
theorem dbox_eight {w : World} {g : Nat} {d : Wd} (h : w.heap[g]? = some (.cells (wdV d).toArray 66 (0, 0))) : w.cell? ⟨g, 0, none⟩ = some (.int .i64 d.n) ∧ w.cell? ⟨g, 1, none⟩ = some (.int .i64 d.k) ∧ w.cell? ⟨g, 2, none⟩ = some (.int .i64 d.p) ∧ w.cell? ⟨g, 3, none⟩ = some (.int .i64 d.a) ∧ w.cell? ⟨g, 4, none⟩ = some (.int .i64 d.b) ∧ w.cell? ⟨g, 5, none⟩ = some (.int .i64 d.m) ∧ w.cell? ⟨g, 6, none⟩ = some (.int .u32 d.s) ∧ w.cell? ⟨g, 7, none⟩ = some (.int .i64 d.key) := by
  exact ⟨by simp [World.cell?, h, wdV], by simp [World.cell?, h, wdV], by simp [World.cell?, h, wdV], by simp [World.cell?, h, wdV], by simp [World.cell?, h, wdV], by simp [World.cell?, h, wdV], by simp [World.cell?, h, wdV], by simp [World.cell?, h, wdV]⟩
set_option maxHeartbeats 8000000 in
theorem dopen_split {B m : Nat} {v : Value} {s : Ps} {w : World} (h : QAt B w m v s) (ho : Iv s) (hB : B ≤ w.heap.size) (hl1 : s.last ≤ 90000) (split mt sz kind : Int) (h0 : split ≠ 0) (hE : mayE s split mt kind = 0) :
    Calls Try.prog 57 #[.pointer (some ⟨m, 0, none⟩), .int .i64 split, .int .i64 mt, .int .u32 sz, .int .i64 kind] w (OpD B m v w (opnS s split mt sz kind) (s.last + 1)) := by
  obtain ⟨hk, hhas, hmt, hlen⟩ : (kind = 1 ∨ kind = 2 ∨ kind = 3) ∧ hasW s.L split ∧ mtdB mt = true ∧ s.L.length ≤ 62 := by
    unfold mayE at hE
    by_cases hk : kind = 1 ∨ kind = 2 ∨ kind = 3
    · rw [if_neg (fun q => q hk), if_neg h0] at hE
      by_cases q1 : hasB s.L split = false
      · rw [if_pos q1] at hE; omega
      · rw [if_neg q1] at hE
        by_cases q2 : mtdB mt = false
        · rw [if_pos q2] at hE; omega
        · rw [if_neg q2] at hE
          by_cases q3 : 62 < s.L.length
          · rw [if_pos q3] at hE; omega
          · exact ⟨hk, hasB_iff.1 (by simpa using q1), by simpa using q2, by omega⟩
    · rw [if_pos hk] at hE; omega
  have k1 : ¬ kind < 1 := by omega
  have k2 : ¬ kind > 3 := by omega
  have l0 := ho.l0
  have hn : s.L.length ≤ 1000 := by omega
  have hml := h.lt
  obtain ⟨i, hi, hix⟩ : ∃ i : Nat, i < s.L.length ∧ ixW s.L split = i := ixW_has (hasB_iff.2 hhas)
  have HA : Hid (Calls Try.prog 53 #[.pointer (some ⟨m, 0, none⟩), .int .i64 split] w fun e w' => e = .returned (.int .i64 i) ∧ w' = w) := hidden (by rw [← hix]; exact dat_any h hn split)
  have HM := hidden (fun wx => dmethod_any mt wx)
  rw [hmt] at HM
  have HO := hidden (dof_any h hn split)
  have i9 : ¬ (i : Int) < 0 := by omega
  have q0 : (split == 0) = false := by simp [h0]
  have q1 : (split != 0) = true := by rw [bne_iff_ne]; exact h0
  obtain ⟨va, vc, hv⟩ := own_slice h.row
  have hd2 := h.cells.2.2.1
  have hd3 := h.cells.2.2.2.1
  rw [hv] at hd2
  have n62 : ¬ (62 : Int) < s.L.length := by omega
  have n62b : ¬ (62 : Nat) < s.L.length := by omega
  have HH := hidden h
  have HOI := hidden ho
  have HHAS := hidden hhas
  have ht := tmod2 hmt
  have m2 : mt % 2 = 0 ∨ mt % 2 = 1 := by omega
  obtain ⟨LW, hLW⟩ : ∃ LW, s.last + 1 = LW := ⟨_, rfl⟩
  obtain ⟨LP, hLP⟩ : ∃ LP, s.last + 2 = LP := ⟨_, rfl⟩
  obtain ⟨LQ, hLQ⟩ : ∃ LQ, s.last + 3 = LQ := ⟨_, rfl⟩
  have w1 : IntKind.i64.wrap (s.last + 1) = LW := by rw [IntKind.wrap_i64]; omega
  have w2 : IntKind.i64.wrap (LW + 1) = LP := by rw [IntKind.wrap_i64]; omega
  have w3 : IntKind.i64.wrap (LW + 2) = LQ := by rw [IntKind.wrap_i64]; omega
  have w4 : IntKind.i64.wrap (LQ - 1) = LP := by rw [IntKind.wrap_i64]; omega
  have HLW := hidden hLW
  have HLP := hidden hLP
  have HLEN := hidden hlen
  have HFIN : Hid (∀ (P1 : Wd) (w' : World) (v2 : Value), P1 = dopnP s split mt sz → QAt B w' m v2 { s with L := ((s.L ++ [opnW s kind, P1]).map (turnF (ofW s.L split).p split LP)).map (parX split LP) } → Fm w w' (TP m v) (TP m v2) → OpD B m v w (opnS s split mt sz kind) LW (.returned (.tuple #[.int .i64 LW, .int .i64 0])) (w'.setCell ⟨m, 3, none⟩ (.int .i64 LP))) := hidden (fun P1 w' v2 hP g f => by
    rw [hP, ← hLP, dopn_list ho split mt sz kind hhas] at g
    obtain ⟨g3, f3⟩ := g.set3 LP
    refine ⟨rfl, v2, ⟨g3.base, ?_, g3.row⟩, f.trans f3⟩
    show _ = some (Obj.cells #[.int .i64 s.w, .int .i64 s.h, v2, .int .i64 (s.last + 2)] _ (0, 0))
    rw [hLP]
    exact g3.box)
  have hW1 : opnW s kind = ⟨LW, kind, LP, 0, 0, 0, 0, 0⟩ := by unfold opnW; rw [hLW, hLP]
  have hP1 : ∀ a b, a = (if mt % 2 = 0 then LW else split) → b = (if mt % 2 = 0 then split else LW) → (⟨LP, 4, 0, a, b, mt, sz, LW⟩ : Wd) = dopnP s split mt sz := by
    intro a b ha hb
    unfold dopnP
    rw [ha, hb, ← hLW, ← hLP]
  rw [hW1] at HFIN
  generalize hPQ : OpD B m v w (opnS s split mt sz kind) LW = PQ at *
  rw [hLW]
  rw [hPQ]
  obtain ⟨LA, hLA⟩ : ∃ LA, s.last = LA := ⟨_, rfl⟩
  rw [hLA] at hd3 w1
  unfold wdA at HO
  generalize hd : ofW s.L split = d at *
  obtain ⟨N, hN⟩ : ∃ N, s.L.length = N := ⟨_, rfl⟩
  have HN := hidden hN
  rw [hN] at n62 n62b hd2 hv hn
  subst hv
  have hn62 : N ≤ 62 := by omega
  clear hLW hLP hLQ hE hmt hix hi hk hlen l0 hl1 ho hhas hPQ hLA hd hN hW1
  rcases m2 with e | e
  · rw [e] at ht
    have HP1 := hidden (hP1 LW split (by rw [if_pos e]) (by rw [if_pos e]))
    have tw : IntKind.i64.wrap 0 = 0 := by rw [IntKind.wrap_i64]; omega
    clear hP1 e
    go_enter Try.func57, Try.ntmps57
    go_upto_region 20 with (first | (go_at_call 53; refine HA.out.mono ?_; rintro e1 w5 ⟨rfl, e2⟩; rw [e2]; clear e2) | (go_at_call 75; refine (HM.out _).mono ?_; rintro e1 w5 ⟨rfl, e2⟩; rw [e2]; clear e2) | (go_at_call 32; refine HO.out.mono ?_; rintro e1 w6 ⟨rfl, HB6⟩) | fail)
    have hbO : Below w6.heap.size w6 (w6.alloc (.cells #[.int .i64 d.n, .int .i64 d.k, .int .i64 d.p, .int .i64 d.a, .int .i64 d.b, .int .i64 d.m, .int .u32 d.s, .int .i64 d.key] 66)) := (Below.refl _ _).alloc (Nat.le_refl _) _
    have hsz : (w6.alloc (.cells #[.int .i64 d.n, .int .i64 d.k, .int .i64 d.p, .int .i64 d.a, .int .i64 d.b, .int .i64 d.m, .int .u32 d.s, .int .i64 d.key] 66)).heap.size = w6.heap.size + 1 := by simp
    have hbQ : Below (w6.heap.size + 1) (w6.alloc (.cells #[.int .i64 d.n, .int .i64 d.k, .int .i64 d.p, .int .i64 d.a, .int .i64 d.b, .int .i64 d.m, .int .u32 d.s, .int .i64 d.key] 66)) ((w6.alloc (.cells #[.int .i64 d.n, .int .i64 d.k, .int .i64 d.p, .int .i64 d.a, .int .i64 d.b, .int .i64 d.m, .int .u32 d.s, .int .i64 d.key] 66)).alloc (.cells #[.int .i64 LP, .int .i64 4, .int .i64 0, .int .i64 LW, .int .i64 split, .int .i64 mt, .int .u32 sz, .int .i64 LW] 66)) := by rw [← hsz]; exact (Below.refl _ _).alloc (Nat.le_refl _) _
    have HWO : Hid (((w6.alloc (.cells #[.int .i64 d.n, .int .i64 d.k, .int .i64 d.p, .int .i64 d.a, .int .i64 d.b, .int .i64 d.m, .int .u32 d.s, .int .i64 d.key] 66)).alloc (.cells #[.int .i64 LP, .int .i64 4, .int .i64 0, .int .i64 LW, .int .i64 split, .int .i64 mt, .int .u32 sz, .int .i64 LW] 66)).heap[w6.heap.size]? = some (.cells (wdV d).toArray 66 (0, 0))) := hidden (by
      rw [hbQ.block w6.heap.size (by omega)]
      exact heap_alloc_new w6 _)
    have HWQ : Hid (((w6.alloc (.cells #[.int .i64 d.n, .int .i64 d.k, .int .i64 d.p, .int .i64 d.a, .int .i64 d.b, .int .i64 d.m, .int .u32 d.s, .int .i64 d.key] 66)).alloc (.cells #[.int .i64 LP, .int .i64 4, .int .i64 0, .int .i64 LW, .int .i64 split, .int .i64 mt, .int .u32 sz, .int .i64 LW] 66)).heap[w6.heap.size + 1]? = some (.cells (wdV ⟨LP, 4, 0, LW, split, mt, sz, LW⟩).toArray 66 (0, 0))) := hidden (by
      rw [← hsz]
      exact heap_alloc_new _ _)
    have HWB : Hid (Below w.heap.size w ((w6.alloc (.cells #[.int .i64 d.n, .int .i64 d.k, .int .i64 d.p, .int .i64 d.a, .int .i64 d.b, .int .i64 d.m, .int .u32 d.s, .int .i64 d.key] 66)).alloc (.cells #[.int .i64 LP, .int .i64 4, .int .i64 0, .int .i64 LW, .int .i64 split, .int .i64 mt, .int .u32 sz, .int .i64 LW] 66))) := hidden ((HB6.out.trans (hbO.mono HB6.out.size)).trans (hbQ.mono (by have := HB6.out.size; omega)))
    have hlo : w.heap.size ≤ w6.heap.size := HB6.out.size
    generalize (w6.alloc (.cells #[.int .i64 d.n, .int .i64 d.k, .int .i64 d.p, .int .i64 d.a, .int .i64 d.b, .int .i64 d.m, .int .u32 d.s, .int .i64 d.key] 66)).alloc (.cells #[.int .i64 LP, .int .i64 4, .int .i64 0, .int .i64 LW, .int .i64 split, .int .i64 mt, .int .u32 sz, .int .i64 LW] 66) = W at *
    clear hbO hbQ hsz HB6
    generalize w6.heap.size + 1 = Q at *
    generalize w6.heap.size = O at *
    have hQ := HH.out.later HWB.out
    have HQW := hidden hQ
    have e2 := hQ.cells.2.2.1
    have e2f := hQ.cells.2.2.2.2 2
    obtain ⟨b0, b1, b2, b3, b4, b5, b6, b7⟩ := dbox_eight HWQ.out
    simp only at b0 b1 b2 b3 b4 b5 b6 b7
    have hBW : B ≤ W.heap.size := Nat.le_trans hB HWB.out.size
    have hOl : O < W.heap.size := (Array.getElem?_eq_some_iff.1 HWO.out).1
    have hmO : m ≠ O := by omega
    have hmW := hQ.lt
    have HOW : Hid (∀ wx : World, Below W.heap.size W wx → wx.ownsRow B 66 8 (.slice va N vc) N (wdsV s.L)) := hidden (fun wx hb => by
      have r := own_later HQW.out.row hb
      rw [HN.out] at r
      exact r)
    have HREL : Hid (∀ (wp w2 : World) (a' : Option Addr) (c' : Nat), Below W.heap.size W wp → w2.ownsRow B 66 8 (.slice a' (N + 2) c') (N + 2) (wdsV (s.L ++ [⟨LW, kind, LP, 0, 0, 0, 0, 0⟩, ⟨LP, 4, 0, LW, split, mt, sz, LW⟩])) → Fm wp w2 (fun j => (Value.slice va N vc).ownBlock = some j) (fun j => (Value.slice a' (N + 2) c').ownBlock = some j) → (w2.cell? ⟨m, 2, none⟩ = some (.slice va N vc) ∧ w2.frozen? ⟨m, 2, none⟩ = false) ∧ Hid (∃ v2, QAt B (w2.setCell ⟨m, 2, none⟩ (.slice a' (N + 2) c')) m v2 { s with L := s.L ++ [⟨LW, kind, LP, 0, 0, 0, 0, 0⟩, ⟨LP, 4, 0, LW, split, mt, sz, LW⟩] } ∧ Fm w (w2.setCell ⟨m, 2, none⟩ (.slice a' (N + 2) c')) (TP m (.slice va N vc)) (TP m v2) ∧ (w2.setCell ⟨m, 2, none⟩ (.slice a' (N + 2) c')).cell? ⟨O, 2, none⟩ = some (.int .i64 d.p))) := hidden (fun wp w2 a' c' hb ho f => by
      have f2 : Fm W w2 (fun k => (Value.slice va N vc).ownBlock = some k) (fun k => (Value.slice a' (N + 2) c').ownBlock = some k) := (Fm.same hb).trans f
      have hl : (s.L ++ [(⟨LW, kind, LP, 0, 0, 0, 0, 0⟩ : Wd), ⟨LP, 4, 0, LW, split, mt, sz, LW⟩]).length = N + 2 := by rw [List.length_append, HN.out]; rfl
      obtain ⟨g1, g2⟩ := HQW.out.grown f2 (L := s.L ++ [⟨LW, kind, LP, 0, 0, 0, 0, 0⟩, ⟨LP, 4, 0, LW, split, mt, sz, LW⟩]) (by rw [hl]; exact ho)
      have hm2 : w2.heap[m]? = W.heap[m]? := f2.block m hmW HQW.out.ne
      have hO2 : w2.heap[O]? = W.heap[O]? := f2.block O hOl (fun e => by
        have := (HH.out.row.lt O e).2
        omega)
      refine ⟨⟨by rw [World.cell?_of_block hm2]; exact e2, by rw [World.frozen?_of_block hm2]; exact e2f⟩, hidden ⟨_, g1, (Fm.same HWB.out).trans g2, ?_⟩⟩
      have : (w2.setCell ⟨m, 2, none⟩ (.slice a' (N + 2) c')).heap[O]? = W.heap[O]? := by rw [heap_setCell_other _ _ _ _ (Ne.symm hmO)]; exact hO2
      rw [World.cell?_of_block this]
      exact (dbox_eight HWO.out).2.2.1)
    have HNW : Hid (∀ wx : World, wx.heap = (W.alloc (.cells #[.int .i64 LW, .int .i64 kind, .int .i64 LP, .int .i64 0, .int .i64 0, .int .i64 0, .int .u32 0, .int .i64 0, .int .i64 LP, .int .i64 4, .int .i64 0, .int .i64 LW, .int .i64 split, .int .i64 mt, .int .u32 sz, .int .i64 LW] 66)).heap → ∀ j u, (wdsV [⟨LW, kind, LP, 0, 0, 0, 0, 0⟩, ⟨LP, 4, 0, LW, split, mt, sz, LW⟩])[j]? = some u → wx.cell? ((⟨W.heap.size, 0, none⟩ : Addr).add j) = some u) := hidden (fun wx e j u hj => by
      have hh := heap_alloc_new W (.cells #[.int .i64 LW, .int .i64 kind, .int .i64 LP, .int .i64 0, .int .i64 0, .int .i64 0, .int .u32 0, .int .i64 0, .int .i64 LP, .int .i64 4, .int .i64 0, .int .i64 LW, .int .i64 split, .int .i64 mt, .int .u32 sz, .int .i64 LW] 66)
      rw [← e] at hh
      exact box2_cells (d1 := ⟨LW, kind, LP, 0, 0, 0, 0, 0⟩) (d2 := ⟨LP, 4, 0, LW, split, mt, sz, LW⟩) hh j u hj)
    have HNL : Hid (N = s.L.length) := hidden HN.out.symm
    go_cut [12] from 99 to 113 (fun s12 wx => s12 = .int .i64 LW ∧ Hid (∃ v2, QAt B wx m v2 { s with L := s.L ++ [⟨LW, kind, LP, 0, 0, 0, 0, 0⟩, ⟨LP, 4, 0, LW, split, mt, sz, LW⟩] } ∧ Fm w wx (TP m (.slice va N vc)) (TP m v2) ∧ wx.cell? ⟨O, 2, none⟩ = some (.int .i64 d.p)))
    case first =>
      clear HWO HWQ HQW HWB HH HFIN hQ HA HM HO
      have hN1 : N ≤ 1000 := by omega
      go_region_law (first | (refine step_appD2 (by rfl) _ _ (by rfl) B N (.slice va N vc) s.L HNL.out (by rfl) (HOW.out _ (by repeat (first | exact Below.refl _ _ | apply Below.drew | (refine Below.alloc ?_ (by first | omega | (simp; omega) | simp) _)))) _ 2 ⟨LW, kind, LP, 0, 0, 0, 0, 0⟩ ⟨LP, 4, 0, LW, split, mt, sz, LW⟩ (by rfl) (HNW.out _ (by rfl)) hN1 (by first | omega | (simp; omega) | simp) ?_; intro a2 c2 w2 ho2 f2; obtain ⟨⟨q1, q2⟩, HG⟩ := HREL.out _ _ _ _ (by repeat (first | exact Below.refl _ _ | apply Below.drew | (refine Below.alloc ?_ (by first | omega | (simp; omega) | simp) _))) ho2 f2.out; clear ho2 f2) | fail)
      all_goals (try go_wp2_with fail)
      all_goals go_meet
      all_goals exact ⟨rfl, HG⟩
    case rest =>
      obtain ⟨rfl, HG⟩ := hcut
      clear HOW HNW HREL b0 b1 b2 b3 b4 b5 b6 b7 e2 e2f HWO HWQ HQW hQ
      obtain ⟨v2, g1, f1, o2⟩ := HG.out
      have hl2 : (s.L ++ [(⟨LW, kind, LP, 0, 0, 0, 0, 0⟩ : Wd), ⟨LP, 4, 0, LW, split, mt, sz, LW⟩]).length = N + 2 := by rw [List.length_append, HN.out]; rfl
      have HT := hidden (dturned_any g1 (by show (s.L ++ [_, _]).length ≤ 1000; rw [hl2]; omega) d.p split LP)
      have HF1 := hidden f1
      have HFIN2 := hidden (fun w' => HFIN.out _ w' v2 HP1.out)
      clear HG g1 f1 HFIN HP1
      have HL1 : Hid (((s.L ++ [(⟨LW, kind, LP, 0, 0, 0, 0, 0⟩ : Wd), ⟨LP, 4, 0, LW, split, mt, sz, LW⟩]).map (turnF d.p split LP)).length = N + 2) := hidden (by rw [List.length_map]; exact hl2)
      generalize (s.L ++ [(⟨LW, kind, LP, 0, 0, 0, 0, 0⟩ : Wd), ⟨LP, 4, 0, LW, split, mt, sz, LW⟩]).map (turnF d.p split LP) = L1 at *
      clear hl2
      go_upto_region 22 with (first | (go_at_call 74; refine HT.out.mono ?_; rintro e1 w8 ⟨rfl, HT8⟩) | fail)
      have HR0 : Hid (QAt B w8 m v2 { s with L := L1 } ∧ Fm w w8 (TP m (.slice va N vc)) (TP m v2)) := hidden ⟨HT8.out.1, HF1.out.trans HT8.out.2⟩
      clear HT HT8 HF1 o2
      obtain ⟨N2, hN2⟩ : ∃ N2, N + 2 = N2 := ⟨_, rfl⟩
      rw [hN2] at HL1
      obtain ⟨va2, vc2, hv2⟩ := own_slice HR0.out.1.row
      rw [show ({ s with L := L1 } : Ps).L.length = N2 from HL1.out] at hv2
      subst hv2
      have hN2b : N2 ≤ 64 := by omega
      clear hN2
      go_upto_region 23 with fail
      go_loopw [15] (fun i w' => ∃ j : Nat, i = .int .i64 j ∧ j ≤ N2 ∧ Hid (QAt B w' m (.slice va2 N2 vc2) { s with L := (L1.take j).map (parX split LP) ++ L1.drop j } ∧ Fm w w' (TP m (.slice va N vc)) (TP m (.slice va2 N2 vc2)))) (fun i _ => N2 - (intOf i).toNat)
      case atStart => exact ⟨0, rfl, Nat.zero_le _, HR0⟩
      case round =>
        obtain ⟨j, rfl, hj, HR⟩ := hrel
        obtain ⟨KL, hKL⟩ : ∃ KL, (L1.take j).map (parX split LP) ++ L1.drop j = KL := ⟨_, rfl⟩
        have hKN : KL.length = N2 := by rw [← hKL, mapK_len]; exact HL1.out
        by_cases hlt : j < N2
        · have l1 : (j : Int) < N2 := by omega
          have l0 : (0 : Int) ≤ j := by omega
          have hjl : j < L1.length := by rw [HL1.out]; exact hlt
          have hjk : j < KL.length := by omega
          obtain ⟨x, hx⟩ : ∃ x, L1[j] = x := ⟨_, rfl⟩
          have hKd : KL[j] = x := by
            rw [← hx]
            subst hKL
            exact mapK_at (parX split LP) L1 j hjl hjk
          have HNX : Hid (KL.set j (parX split LP x) = (L1.take (j + 1)).map (parX split LP) ++ L1.drop (j + 1)) := hidden (by rw [← hKL, ← hx]; exact mapK_set (parX split LP) L1 j hjl)
          rw [hKL] at HR
          obtain ⟨q0, f0⟩ := HR.out
          obtain ⟨g, rfl⟩ : ∃ g, va2 = some ⟨g, 0, none⟩ := by
            have r := q0.row
            rw [show ({ s with L := KL } : Ps).L.length = N2 from hKN] at r
            obtain ⟨g, c, hv2, _⟩ := wrow_pos (L := KL) (by rw [hKN]; exact r) (by omega)
            simp only [Value.slice.injEq] at hv2
            exact ⟨g, hv2.1⟩
          obtain ⟨m0, n0, p0, a0, b0, z0, y0, x0⟩ := q0.win (by show List.length _ = _; simp [hKN]) j (by show j < List.length _; simp [hKN]; omega) x (by exact hKd)
          by_cases en : x.n = split
          · have kn : (x.n == split) = true := by simp [en]
            obtain ⟨q1, g1⟩ := q0.setW (by show List.length _ = _; simp [hKN]) j (by show j < List.length _; simp [hKN]; omega) 2 (by omega) (.int .i64 LP) x (parF LP x) (by exact hKd) rfl
            have HEND : Hid (QAt B (wr.setCell ⟨g, j * 8 + 2, none⟩ (.int .i64 LP)) m (.slice (some ⟨g, 0, none⟩) N2 vc2) { s with L := (L1.take (j + 1)).map (parX split LP) ++ L1.drop (j + 1) } ∧ Fm w (wr.setCell ⟨g, j * 8 + 2, none⟩ (.int .i64 LP)) (TP m (.slice va N vc)) (TP m (.slice (some ⟨g, 0, none⟩) N2 vc2))) := hidden (by
              refine ⟨?_, f0.trans g1⟩
              rw [← HNX.out, show parX split LP x = parF LP x by unfold parX; rw [if_pos en]]
              exact q1)
            clear q0 q1 f0 g1 HNX HR HR0 HFIN2 hKd hx hKL en
            generalize x.n = xn at *
            generalize x.p = xp at *
            go_wp2
            go_roundw
            case rel => exact ⟨j + 1, by first | rfl | go_num, by omega, HEND⟩
            case measure => simp [intOf]; omega
          · have kn : (x.n == split) = false := by simp [en]
            have HEND : Hid (QAt B wr m (.slice (some ⟨g, 0, none⟩) N2 vc2) { s with L := (L1.take (j + 1)).map (parX split LP) ++ L1.drop (j + 1) } ∧ Fm w wr (TP m (.slice va N vc)) (TP m (.slice (some ⟨g, 0, none⟩) N2 vc2))) := hidden (by
              refine ⟨?_, f0⟩
              rw [← HNX.out, show parX split LP x = x by unfold parX; rw [if_neg en]]
              have : KL.set j x = KL := by rw [← hKd]; exact List.set_getElem_self hjk
              rw [this]
              exact q0)
            clear q0 f0 HNX HR HR0 HFIN2 hKd hx hKL en
            generalize x.n = xn at *
            generalize x.p = xp at *
            go_wp2
            go_roundw
            case rel => exact ⟨j + 1, by first | rfl | go_num, by omega, HEND⟩
            case measure => simp [intOf]; omega
        · obtain rfl : j = N2 := by omega
          have HE : Hid (QAt B wr m (.slice va2 j vc2) { s with L := L1.map (parX split LP) } ∧ Fm w wr (TP m (.slice va N vc)) (TP m (.slice va2 j vc2))) := hidden (by
            have r := HR.out
            rw [show L1.take j = L1 by rw [← HL1.out, List.take_length], show L1.drop j = [] by rw [← HL1.out, List.drop_length], List.append_nil] at r
            exact r)
          have HQ9 := hidden (HFIN2.out _ HE.out.1 HE.out.2)
          have c2 := HE.out.1.cells.2.2.1
          have c3 : ∃ u, wr.cell? ⟨m, 3, none⟩ = some u := ⟨_, HE.out.1.cells.2.2.2.1⟩
          obtain ⟨u3, c3⟩ := c3
          have c3f := HE.out.1.cells.2.2.2.2 3
          clear HR HR0 HFIN2 HE hKL hKN
          go_wp2
          exact HQ9.out
  · rw [e] at ht
    have HP1 := hidden (hP1 split LW (by rw [if_neg (by omega)]) (by rw [if_neg (by omega)]))
    have tw : IntKind.i64.wrap 1 = 1 := by rw [IntKind.wrap_i64]; omega
    clear hP1 e
    go_enter Try.func57, Try.ntmps57
    go_upto_region 20 with (first | (go_at_call 53; refine HA.out.mono ?_; rintro e1 w5 ⟨rfl, e2⟩; rw [e2]; clear e2) | (go_at_call 75; refine (HM.out _).mono ?_; rintro e1 w5 ⟨rfl, e2⟩; rw [e2]; clear e2) | (go_at_call 32; refine HO.out.mono ?_; rintro e1 w6 ⟨rfl, HB6⟩) | fail)
    have hbO : Below w6.heap.size w6 (w6.alloc (.cells #[.int .i64 d.n, .int .i64 d.k, .int .i64 d.p, .int .i64 d.a, .int .i64 d.b, .int .i64 d.m, .int .u32 d.s, .int .i64 d.key] 66)) := (Below.refl _ _).alloc (Nat.le_refl _) _
    have hsz : (w6.alloc (.cells #[.int .i64 d.n, .int .i64 d.k, .int .i64 d.p, .int .i64 d.a, .int .i64 d.b, .int .i64 d.m, .int .u32 d.s, .int .i64 d.key] 66)).heap.size = w6.heap.size + 1 := by simp
    have hbQ : Below (w6.heap.size + 1) (w6.alloc (.cells #[.int .i64 d.n, .int .i64 d.k, .int .i64 d.p, .int .i64 d.a, .int .i64 d.b, .int .i64 d.m, .int .u32 d.s, .int .i64 d.key] 66)) ((w6.alloc (.cells #[.int .i64 d.n, .int .i64 d.k, .int .i64 d.p, .int .i64 d.a, .int .i64 d.b, .int .i64 d.m, .int .u32 d.s, .int .i64 d.key] 66)).alloc (.cells #[.int .i64 LP, .int .i64 4, .int .i64 0, .int .i64 split, .int .i64 LW, .int .i64 mt, .int .u32 sz, .int .i64 LW] 66)) := by rw [← hsz]; exact (Below.refl _ _).alloc (Nat.le_refl _) _
    have HWO : Hid (((w6.alloc (.cells #[.int .i64 d.n, .int .i64 d.k, .int .i64 d.p, .int .i64 d.a, .int .i64 d.b, .int .i64 d.m, .int .u32 d.s, .int .i64 d.key] 66)).alloc (.cells #[.int .i64 LP, .int .i64 4, .int .i64 0, .int .i64 split, .int .i64 LW, .int .i64 mt, .int .u32 sz, .int .i64 LW] 66)).heap[w6.heap.size]? = some (.cells (wdV d).toArray 66 (0, 0))) := hidden (by
      rw [hbQ.block w6.heap.size (by omega)]
      exact heap_alloc_new w6 _)
    have HWQ : Hid (((w6.alloc (.cells #[.int .i64 d.n, .int .i64 d.k, .int .i64 d.p, .int .i64 d.a, .int .i64 d.b, .int .i64 d.m, .int .u32 d.s, .int .i64 d.key] 66)).alloc (.cells #[.int .i64 LP, .int .i64 4, .int .i64 0, .int .i64 split, .int .i64 LW, .int .i64 mt, .int .u32 sz, .int .i64 LW] 66)).heap[w6.heap.size + 1]? = some (.cells (wdV ⟨LP, 4, 0, split, LW, mt, sz, LW⟩).toArray 66 (0, 0))) := hidden (by
      rw [← hsz]
      exact heap_alloc_new _ _)
    have HWB : Hid (Below w.heap.size w ((w6.alloc (.cells #[.int .i64 d.n, .int .i64 d.k, .int .i64 d.p, .int .i64 d.a, .int .i64 d.b, .int .i64 d.m, .int .u32 d.s, .int .i64 d.key] 66)).alloc (.cells #[.int .i64 LP, .int .i64 4, .int .i64 0, .int .i64 split, .int .i64 LW, .int .i64 mt, .int .u32 sz, .int .i64 LW] 66))) := hidden ((HB6.out.trans (hbO.mono HB6.out.size)).trans (hbQ.mono (by have := HB6.out.size; omega)))
    have hlo : w.heap.size ≤ w6.heap.size := HB6.out.size
    generalize (w6.alloc (.cells #[.int .i64 d.n, .int .i64 d.k, .int .i64 d.p, .int .i64 d.a, .int .i64 d.b, .int .i64 d.m, .int .u32 d.s, .int .i64 d.key] 66)).alloc (.cells #[.int .i64 LP, .int .i64 4, .int .i64 0, .int .i64 split, .int .i64 LW, .int .i64 mt, .int .u32 sz, .int .i64 LW] 66) = W at *
    clear hbO hbQ hsz HB6
    generalize w6.heap.size + 1 = Q at *
    generalize w6.heap.size = O at *
    have hQ := HH.out.later HWB.out
    have HQW := hidden hQ
    have e2 := hQ.cells.2.2.1
    have e2f := hQ.cells.2.2.2.2 2
    obtain ⟨b0, b1, b2, b3, b4, b5, b6, b7⟩ := dbox_eight HWQ.out
    simp only at b0 b1 b2 b3 b4 b5 b6 b7
    have hBW : B ≤ W.heap.size := Nat.le_trans hB HWB.out.size
    have hOl : O < W.heap.size := (Array.getElem?_eq_some_iff.1 HWO.out).1
    have hmO : m ≠ O := by omega
    have hmW := hQ.lt
    have HOW : Hid (∀ wx : World, Below W.heap.size W wx → wx.ownsRow B 66 8 (.slice va N vc) N (wdsV s.L)) := hidden (fun wx hb => by
      have r := own_later HQW.out.row hb
      rw [HN.out] at r
      exact r)
    have HREL : Hid (∀ (wp w2 : World) (a' : Option Addr) (c' : Nat), Below W.heap.size W wp → w2.ownsRow B 66 8 (.slice a' (N + 2) c') (N + 2) (wdsV (s.L ++ [⟨LW, kind, LP, 0, 0, 0, 0, 0⟩, ⟨LP, 4, 0, split, LW, mt, sz, LW⟩])) → Fm wp w2 (fun j => (Value.slice va N vc).ownBlock = some j) (fun j => (Value.slice a' (N + 2) c').ownBlock = some j) → (w2.cell? ⟨m, 2, none⟩ = some (.slice va N vc) ∧ w2.frozen? ⟨m, 2, none⟩ = false) ∧ Hid (∃ v2, QAt B (w2.setCell ⟨m, 2, none⟩ (.slice a' (N + 2) c')) m v2 { s with L := s.L ++ [⟨LW, kind, LP, 0, 0, 0, 0, 0⟩, ⟨LP, 4, 0, split, LW, mt, sz, LW⟩] } ∧ Fm w (w2.setCell ⟨m, 2, none⟩ (.slice a' (N + 2) c')) (TP m (.slice va N vc)) (TP m v2) ∧ (w2.setCell ⟨m, 2, none⟩ (.slice a' (N + 2) c')).cell? ⟨O, 2, none⟩ = some (.int .i64 d.p))) := hidden (fun wp w2 a' c' hb ho f => by
      have f2 : Fm W w2 (fun k => (Value.slice va N vc).ownBlock = some k) (fun k => (Value.slice a' (N + 2) c').ownBlock = some k) := (Fm.same hb).trans f
      have hl : (s.L ++ [(⟨LW, kind, LP, 0, 0, 0, 0, 0⟩ : Wd), ⟨LP, 4, 0, split, LW, mt, sz, LW⟩]).length = N + 2 := by rw [List.length_append, HN.out]; rfl
      obtain ⟨g1, g2⟩ := HQW.out.grown f2 (L := s.L ++ [⟨LW, kind, LP, 0, 0, 0, 0, 0⟩, ⟨LP, 4, 0, split, LW, mt, sz, LW⟩]) (by rw [hl]; exact ho)
      have hm2 : w2.heap[m]? = W.heap[m]? := f2.block m hmW HQW.out.ne
      have hO2 : w2.heap[O]? = W.heap[O]? := f2.block O hOl (fun e => by
        have := (HH.out.row.lt O e).2
        omega)
      refine ⟨⟨by rw [World.cell?_of_block hm2]; exact e2, by rw [World.frozen?_of_block hm2]; exact e2f⟩, hidden ⟨_, g1, (Fm.same HWB.out).trans g2, ?_⟩⟩
      have : (w2.setCell ⟨m, 2, none⟩ (.slice a' (N + 2) c')).heap[O]? = W.heap[O]? := by rw [heap_setCell_other _ _ _ _ (Ne.symm hmO)]; exact hO2
      rw [World.cell?_of_block this]
      exact (dbox_eight HWO.out).2.2.1)
    have HNW : Hid (∀ wx : World, wx.heap = (W.alloc (.cells #[.int .i64 LW, .int .i64 kind, .int .i64 LP, .int .i64 0, .int .i64 0, .int .i64 0, .int .u32 0, .int .i64 0, .int .i64 LP, .int .i64 4, .int .i64 0, .int .i64 split, .int .i64 LW, .int .i64 mt, .int .u32 sz, .int .i64 LW] 66)).heap → ∀ j u, (wdsV [⟨LW, kind, LP, 0, 0, 0, 0, 0⟩, ⟨LP, 4, 0, split, LW, mt, sz, LW⟩])[j]? = some u → wx.cell? ((⟨W.heap.size, 0, none⟩ : Addr).add j) = some u) := hidden (fun wx e j u hj => by
      have hh := heap_alloc_new W (.cells #[.int .i64 LW, .int .i64 kind, .int .i64 LP, .int .i64 0, .int .i64 0, .int .i64 0, .int .u32 0, .int .i64 0, .int .i64 LP, .int .i64 4, .int .i64 0, .int .i64 split, .int .i64 LW, .int .i64 mt, .int .u32 sz, .int .i64 LW] 66)
      rw [← e] at hh
      exact box2_cells (d1 := ⟨LW, kind, LP, 0, 0, 0, 0, 0⟩) (d2 := ⟨LP, 4, 0, split, LW, mt, sz, LW⟩) hh j u hj)
    have HNL : Hid (N = s.L.length) := hidden HN.out.symm
    go_cut [12] from 99 to 113 (fun s12 wx => s12 = .int .i64 LW ∧ Hid (∃ v2, QAt B wx m v2 { s with L := s.L ++ [⟨LW, kind, LP, 0, 0, 0, 0, 0⟩, ⟨LP, 4, 0, split, LW, mt, sz, LW⟩] } ∧ Fm w wx (TP m (.slice va N vc)) (TP m v2) ∧ wx.cell? ⟨O, 2, none⟩ = some (.int .i64 d.p)))
    case first =>
      clear HWO HWQ HQW HWB HH HFIN hQ HA HM HO
      have hN1 : N ≤ 1000 := by omega
      go_region_law (first | (refine step_appD2 (by rfl) _ _ (by rfl) B N (.slice va N vc) s.L HNL.out (by rfl) (HOW.out _ (by repeat (first | exact Below.refl _ _ | apply Below.drew | (refine Below.alloc ?_ (by first | omega | (simp; omega) | simp) _)))) _ 2 ⟨LW, kind, LP, 0, 0, 0, 0, 0⟩ ⟨LP, 4, 0, split, LW, mt, sz, LW⟩ (by rfl) (HNW.out _ (by rfl)) hN1 (by first | omega | (simp; omega) | simp) ?_; intro a2 c2 w2 ho2 f2; obtain ⟨⟨q1, q2⟩, HG⟩ := HREL.out _ _ _ _ (by repeat (first | exact Below.refl _ _ | apply Below.drew | (refine Below.alloc ?_ (by first | omega | (simp; omega) | simp) _))) ho2 f2.out; clear ho2 f2) | fail)
      all_goals (try go_wp2_with fail)
      all_goals go_meet
      all_goals exact ⟨rfl, HG⟩
    case rest =>
      obtain ⟨rfl, HG⟩ := hcut
      clear HOW HNW HREL b0 b1 b2 b3 b4 b5 b6 b7 e2 e2f HWO HWQ HQW hQ
      obtain ⟨v2, g1, f1, o2⟩ := HG.out
      have hl2 : (s.L ++ [(⟨LW, kind, LP, 0, 0, 0, 0, 0⟩ : Wd), ⟨LP, 4, 0, split, LW, mt, sz, LW⟩]).length = N + 2 := by rw [List.length_append, HN.out]; rfl
      have HT := hidden (dturned_any g1 (by show (s.L ++ [_, _]).length ≤ 1000; rw [hl2]; omega) d.p split LP)
      have HF1 := hidden f1
      have HFIN2 := hidden (fun w' => HFIN.out _ w' v2 HP1.out)
      clear HG g1 f1 HFIN HP1
      have HL1 : Hid (((s.L ++ [(⟨LW, kind, LP, 0, 0, 0, 0, 0⟩ : Wd), ⟨LP, 4, 0, split, LW, mt, sz, LW⟩]).map (turnF d.p split LP)).length = N + 2) := hidden (by rw [List.length_map]; exact hl2)
      generalize (s.L ++ [(⟨LW, kind, LP, 0, 0, 0, 0, 0⟩ : Wd), ⟨LP, 4, 0, split, LW, mt, sz, LW⟩]).map (turnF d.p split LP) = L1 at *
      clear hl2
      go_upto_region 22 with (first | (go_at_call 74; refine HT.out.mono ?_; rintro e1 w8 ⟨rfl, HT8⟩) | fail)
      have HR0 : Hid (QAt B w8 m v2 { s with L := L1 } ∧ Fm w w8 (TP m (.slice va N vc)) (TP m v2)) := hidden ⟨HT8.out.1, HF1.out.trans HT8.out.2⟩
      clear HT HT8 HF1 o2
      obtain ⟨N2, hN2⟩ : ∃ N2, N + 2 = N2 := ⟨_, rfl⟩
      rw [hN2] at HL1
      obtain ⟨va2, vc2, hv2⟩ := own_slice HR0.out.1.row
      rw [show ({ s with L := L1 } : Ps).L.length = N2 from HL1.out] at hv2
      subst hv2
      have hN2b : N2 ≤ 64 := by omega
      clear hN2
      go_upto_region 23 with fail
      go_loopw [15] (fun i w' => ∃ j : Nat, i = .int .i64 j ∧ j ≤ N2 ∧ Hid (QAt B w' m (.slice va2 N2 vc2) { s with L := (L1.take j).map (parX split LP) ++ L1.drop j } ∧ Fm w w' (TP m (.slice va N vc)) (TP m (.slice va2 N2 vc2)))) (fun i _ => N2 - (intOf i).toNat)
      case atStart => exact ⟨0, rfl, Nat.zero_le _, HR0⟩
      case round =>
        obtain ⟨j, rfl, hj, HR⟩ := hrel
        obtain ⟨KL, hKL⟩ : ∃ KL, (L1.take j).map (parX split LP) ++ L1.drop j = KL := ⟨_, rfl⟩
        have hKN : KL.length = N2 := by rw [← hKL, mapK_len]; exact HL1.out
        by_cases hlt : j < N2
        · have l1 : (j : Int) < N2 := by omega
          have l0 : (0 : Int) ≤ j := by omega
          have hjl : j < L1.length := by rw [HL1.out]; exact hlt
          have hjk : j < KL.length := by omega
          obtain ⟨x, hx⟩ : ∃ x, L1[j] = x := ⟨_, rfl⟩
          have hKd : KL[j] = x := by
            rw [← hx]
            subst hKL
            exact mapK_at (parX split LP) L1 j hjl hjk
          have HNX : Hid (KL.set j (parX split LP x) = (L1.take (j + 1)).map (parX split LP) ++ L1.drop (j + 1)) := hidden (by rw [← hKL, ← hx]; exact mapK_set (parX split LP) L1 j hjl)
          rw [hKL] at HR
          obtain ⟨q0, f0⟩ := HR.out
          obtain ⟨g, rfl⟩ : ∃ g, va2 = some ⟨g, 0, none⟩ := by
            have r := q0.row
            rw [show ({ s with L := KL } : Ps).L.length = N2 from hKN] at r
            obtain ⟨g, c, hv2, _⟩ := wrow_pos (L := KL) (by rw [hKN]; exact r) (by omega)
            simp only [Value.slice.injEq] at hv2
            exact ⟨g, hv2.1⟩
          obtain ⟨m0, n0, p0, a0, b0, z0, y0, x0⟩ := q0.win (by show List.length _ = _; simp [hKN]) j (by show j < List.length _; simp [hKN]; omega) x (by exact hKd)
          by_cases en : x.n = split
          · have kn : (x.n == split) = true := by simp [en]
            obtain ⟨q1, g1⟩ := q0.setW (by show List.length _ = _; simp [hKN]) j (by show j < List.length _; simp [hKN]; omega) 2 (by omega) (.int .i64 LP) x (parF LP x) (by exact hKd) rfl
            have HEND : Hid (QAt B (wr.setCell ⟨g, j * 8 + 2, none⟩ (.int .i64 LP)) m (.slice (some ⟨g, 0, none⟩) N2 vc2) { s with L := (L1.take (j + 1)).map (parX split LP) ++ L1.drop (j + 1) } ∧ Fm w (wr.setCell ⟨g, j * 8 + 2, none⟩ (.int .i64 LP)) (TP m (.slice va N vc)) (TP m (.slice (some ⟨g, 0, none⟩) N2 vc2))) := hidden (by
              refine ⟨?_, f0.trans g1⟩
              rw [← HNX.out, show parX split LP x = parF LP x by unfold parX; rw [if_pos en]]
              exact q1)
            clear q0 q1 f0 g1 HNX HR HR0 HFIN2 hKd hx hKL en
            generalize x.n = xn at *
            generalize x.p = xp at *
            go_wp2
            go_roundw
            case rel => exact ⟨j + 1, by first | rfl | go_num, by omega, HEND⟩
            case measure => simp [intOf]; omega
          · have kn : (x.n == split) = false := by simp [en]
            have HEND : Hid (QAt B wr m (.slice (some ⟨g, 0, none⟩) N2 vc2) { s with L := (L1.take (j + 1)).map (parX split LP) ++ L1.drop (j + 1) } ∧ Fm w wr (TP m (.slice va N vc)) (TP m (.slice (some ⟨g, 0, none⟩) N2 vc2))) := hidden (by
              refine ⟨?_, f0⟩
              rw [← HNX.out, show parX split LP x = x by unfold parX; rw [if_neg en]]
              have : KL.set j x = KL := by rw [← hKd]; exact List.set_getElem_self hjk
              rw [this]
              exact q0)
            clear q0 f0 HNX HR HR0 HFIN2 hKd hx hKL en
            generalize x.n = xn at *
            generalize x.p = xp at *
            go_wp2
            go_roundw
            case rel => exact ⟨j + 1, by first | rfl | go_num, by omega, HEND⟩
            case measure => simp [intOf]; omega
        · obtain rfl : j = N2 := by omega
          have HE : Hid (QAt B wr m (.slice va2 j vc2) { s with L := L1.map (parX split LP) } ∧ Fm w wr (TP m (.slice va N vc)) (TP m (.slice va2 j vc2))) := hidden (by
            have r := HR.out
            rw [show L1.take j = L1 by rw [← HL1.out, List.take_length], show L1.drop j = [] by rw [← HL1.out, List.drop_length], List.append_nil] at r
            exact r)
          have HQ9 := hidden (HFIN2.out _ HE.out.1 HE.out.2)
          have c2 := HE.out.1.cells.2.2.1
          have c3 : ∃ u, wr.cell? ⟨m, 3, none⟩ = some u := ⟨_, HE.out.1.cells.2.2.2.1⟩
          obtain ⟨u3, c3⟩ := c3
          have c3f := HE.out.1.cells.2.2.2.2 3
          clear HR HR0 HFIN2 HE hKL hKN
          go_wp2
          exact HQ9.out
end Go.Proofs.Ytilfgbcbodjegaa
