/- The walk of StackRefuses: an act more, in the program's stack and in one that is laid over its bytes: alike. -/
import Derived.Test.YthhkennomnmjkaaX10k
namespace Go.Proofs.Ythhkennomnmjkaa
open Go.RowKit Go.ChangeShapes Go.WideShapes
set_option maxHeartbeats 1000000
set_option maxRecDepth 100000
set_option linter.unusedVariables false

/-- an act that is handed in by value -/
theorem open_act {H : Type} {enc : TypeId × Value → H} {W : World} {r : Reach} {q0 : Nat} {v : Value} {d : DataW H} {p : List MemPlace} (hv : Value.okWide Try.prog W r q0 27 v) (h : DataW.Trod enc Try.prog W 0 (fun _ => true) true 27 v d p) (hw : ∀ n ∈ d.weights Try.prog 27, n ≤ reachBytes) :
    ∃ r : Ac, v = r.val ∧ AcOk W r := by
  obtain ⟨cs, rfl, hsz⟩ := okWide_struct Try.underlying27 hv
  rw [show Try.prog.cellsOf 27 = 7 by kernel_rfl] at hsz
  obtain ⟨fuel, hf⟩ := h
  obtain ⟨y0, y1, y2, y3, y4, y5, y6, n', hxy, _, t0, t1, t2, t3, t4, t5, t6⟩ := trod_struct7 Try.underlying27 hf
  obtain ⟨cl⟩ := cs
  replace hsz : cl.length = 7 := hsz
  have hin := hw
  have hDi : d = .agg [y0.1, y1.1, y2.1, y3.1, y4.1, y5.1, y6.1] := hxy
  have e : (DataW.agg [y0.1, y1.1, y2.1, y3.1, y4.1, y5.1, y6.1]).weights Try.prog 27 = y0.1.weights Try.prog 3 ++ (y1.1.weights Try.prog 23 ++ (y2.1.weights Try.prog 23 ++ (y3.1.weights Try.prog 23 ++ (y4.1.weights Try.prog 3 ++ (y5.1.weights Try.prog 24 ++ (y6.1.weights Try.prog 25 ++ ([]))))))) := by
    simp only [DataW.weights, Try.underlying27]
    rfl
  rw [hDi, e] at hin
  match cl, hsz with
  | [v0, v1, v2, v3, v4, v5, v6], _ =>
    replace t0 : DataW.trod enc Try.prog W 0 (fun _ => true) true n' 3 [v0] = some y0 := t0
    replace t1 : DataW.trod enc Try.prog W 0 (fun _ => true) true n' 23 [v1] = some y1 := t1
    replace t2 : DataW.trod enc Try.prog W 0 (fun _ => true) true n' 23 [v2] = some y2 := t2
    replace t3 : DataW.trod enc Try.prog W 0 (fun _ => true) true n' 23 [v3] = some y3 := t3
    replace t4 : DataW.trod enc Try.prog W 0 (fun _ => true) true n' 3 [v4] = some y4 := t4
    replace t5 : DataW.trod enc Try.prog W 0 (fun _ => true) true n' 24 [v5] = some y5 := t5
    replace t6 : DataW.trod enc Try.prog W 0 (fun _ => true) true n' 25 [v6] = some y6 := t6
    obtain ⟨x0, e0, hx0, w0⟩ := DataW.trod_int Try.underlying3 t0
    obtain ⟨x1, e1, hx1, w1⟩ := DataW.trod_int Try.underlying23 t1
    obtain ⟨x2, e2, hx2, w2⟩ := DataW.trod_int Try.underlying23 t2
    obtain ⟨x3, e3, hx3, w3⟩ := DataW.trod_int Try.underlying23 t3
    obtain ⟨x4, e4, hx4, w4⟩ := DataW.trod_int Try.underlying3 t4
    obtain ⟨a5, l5, c5, d5, e5, hr5, ho5, hl5⟩ := open_data t5 (fun n hn => hin n (List.mem_append.2 (.inr (List.mem_append.2 (.inr (List.mem_append.2 (.inr (List.mem_append.2 (.inr (List.mem_append.2 (.inr (List.mem_append.2 (.inl hn)))))))))))))
    obtain ⟨a6, l6, c6, bs6, e6, hb6, hlc6, hl6⟩ := open_words t6 (fun n hn => hin n (List.mem_append.2 (.inr (List.mem_append.2 (.inr (List.mem_append.2 (.inr (List.mem_append.2 (.inr (List.mem_append.2 (.inr (List.mem_append.2 (.inr (List.mem_append.2 (.inl hn)))))))))))))))
    simp only [List.cons.injEq, and_true] at e0 e1 e2 e3 e4
    subst e0 e1 e2 e3 e4 e5 e6
    have b0 := bounds_i64 w0
    have b1 := bounds_u32 w1
    have b2 := bounds_u32 w2
    have b3 := bounds_u32 w3
    have b4 := bounds_i64 w4
    obtain ⟨z1, rfl⟩ := Int.eq_ofNat_of_zero_le b1.1
    obtain ⟨z2, rfl⟩ := Int.eq_ofNat_of_zero_le b2.1
    obtain ⟨z3, rfl⟩ := Int.eq_ofNat_of_zero_le b3.1
    exact ⟨⟨x0, z1, z2, z3, x4, a5, l5, c5, d5, a6, l6, c6, bs6⟩, rfl, b0, by simp only; omega, by simp only; omega, by simp only; omega, b4, ⟨hr5, ho5, hl5⟩, hb6, hlc6, hl6⟩
/-- a document's stack laid over a copy of the program's bytes -/
theorem Two.newRow {B m : Nat} {w0 w1 w2 : World} {s : Ks} {gs : List Nat} (r : RunG B m w0 w1 s gs) (g c : Nat) (ho : w2.ownsRow w1.heap.size 5 1 (.slice (some ⟨g, 0, none⟩) s.bs.length c) s.bs.length (bytesV s.bs)) (hb : Below w1.heap.size w1 w2) :
    Two B m w2.heap.size w0 (w2.alloc (.cells #[.slice (some ⟨g, 0, none⟩) s.bs.length c, .int .i64 s.size, .int .i64 s.fr, .bool s.on] 37)) s s [] := by
  obtain ⟨v, h1, h2, h3, hg⟩ := r
  have hgl := ho.lt g rfl
  have hb2 : Below w2.heap.size w2 (w2.alloc (.cells #[.slice (some ⟨g, 0, none⟩) s.bs.length c, .int .i64 s.size, .int .i64 s.fr, .bool s.on] 37)) := (Below.refl _ _).alloc (Nat.le_refl _) _
  refine ⟨v, .slice (some ⟨g, 0, none⟩) s.bs.length c, (h1.later hb).later hb2, ⟨Nat.le_trans h3 hb.size, heap_alloc_new _ _, own_base (own_later ho hb2) h3⟩, ?_, (h2.trans (hb.mono h3)).trans (hb2.mono (Nat.le_trans h3 hb.size)), Nat.le_trans (Nat.le_trans h3 hb.size) hb2.size, fun g hg => by cases hg⟩
  have hsz := hb.size
  rintro k hk (rfl | e)
  · have := (h1.low _ hk).2; omega
  · simp only [Value.ownBlock, Option.some.injEq] at e
    subst e
    have := (h1.low _ hk).2; omega
theorem stackRefuses_walk (ao : Option Addr) (len cap : Nat) (rs : List Ac) (r : Ac) (w : World) (hA : IsActs w ao len cap rs) (hr : AcOk w r) :
    Calls Try.prog 3 #[.slice ao len cap, r.val] w fun e w' => e = .returned (.bool true) ∧ Below w.heap.size w w' := by
  have HLV : Hid (∀ w1, Below w.heap.size w w1 → Calls Try.prog 5 #[] w1 fun e w' => e = .returned (.bool true) ∧ Below w.heap.size w w') := fun w1 hb => (live_any w1).mono (fun e w' hh => ⟨hh.1, hb.trans (hh.2.mono hb.size)⟩)
  obtain ⟨k, a, b, c, n, pa, pn, pc, ps, la, ln, lc, xs⟩ := r
  have hk0 := hr.1
  have hpn0 := hr.2.2.2.2.2.1.2.2
  have hln0 := hr.2.2.2.2.2.2.2.2
  simp only at hk0 hpn0 hln0
  unfold Ac.val
  simp only
  have hba : Below w.heap.size w (w.alloc (actO k a b c n (.slice pa pn pc) (.slice la ln lc))) := (Below.refl _ _).alloc (Nat.le_refl _) _
  have HA := hidden (hA.later hba)
  have HR : Hid (AcOk (w.alloc (actO k a b c n (.slice pa pn pc) (.slice la ln lc))) ⟨k, a, b, c, n, pa, pn, pc, ps, la, ln, lc, xs⟩) := by
    obtain ⟨g1, g2, g3, g4, g5, ⟨g6, g7, g8⟩, g9, g10, g11⟩ := hr
    exact ⟨g1, g2, g3, g4, g5, ⟨g6.later hba, g7, g8⟩, g9.later hba, g10, g11⟩
  have HQ := hidden (heap_alloc_new w (actO k a b c n (.slice pa pn pc) (.slice la ln lc)))
  have HH := hidden (huge_any ao len cap rs _ HA.out)
  have HBA := hidden hba
  obtain ⟨wq, hwq⟩ : ∃ wq, wq = w.alloc (.cells #[.int .i64 k, .int .u32 a, .int .u32 b, .int .u32 c, .int .i64 n, .slice pa pn pc, .slice la ln lc] 27) := ⟨_, rfl⟩
  unfold actO at HA HR HQ HH HBA
  rw [← hwq] at HA HR HQ HH HBA
  have HWQ := hidden hwq
  have HJ : Hid (∀ wx, Below wq.heap.size wq wx → wx.cell? ⟨w.heap.size, 0, none⟩ = some (.int .i64 k) ∧ wx.cell? ⟨w.heap.size, 1, none⟩ = some (.int .u32 a) ∧ wx.cell? ⟨w.heap.size, 2, none⟩ = some (.int .u32 b) ∧ wx.cell? ⟨w.heap.size, 3, none⟩ = some (.int .u32 c) ∧ wx.cell? ⟨w.heap.size, 4, none⟩ = some (.int .i64 n) ∧ wx.cell? ⟨w.heap.size, 5, none⟩ = some (.slice pa pn pc) ∧ wx.cell? ⟨w.heap.size, 6, none⟩ = some (.slice la ln lc)) := fun wx hb => by
    have hlt : w.heap.size < wq.heap.size := by rw [HWQ.out]; simp
    exact act_cells (w' := w) ((hb.block _ hlt).trans HQ.out)
  have HQL : Hid (w.heap.size ≤ wq.heap.size) := HBA.out.size
  have HBQ : Hid (∀ wx, Below wq.heap.size wq wx → Below w.heap.size w wx) := fun wx hb => HBA.out.trans (hb.mono HQL.out)
  clear hA hr hba
  have s1 : IntKind.i64.wrap ((pn : Int) + (ln : Int)) = (pn : Int) + (ln : Int) := by rw [IntKind.wrap_i64]; omega
  cases hu : hugeB rs with
  | true =>
    rw [hu] at HH
    clear hu HA HR HQ
    go_enter Try.func3, Try.ntmps3
    go_upto_region 1 with fail
    rw [← hwq]
    clear hwq
    go_wp2_with (first | (go_at_call 4; refine HH.out.mono ?_; rintro e wh ⟨rfl, hbh⟩; have HBH := hidden hbh; obtain ⟨j0, j1, j2, j3, j4, j5, j6⟩ := HJ.out _ hbh; clear hbh) | (go_at_call 5; refine (HLV.out _ (HBQ.out _ HBH.out)).mono ?_; rintro e wl ⟨rfl, hbl⟩))
    go_ret
    exact ⟨rfl, hbl⟩
  | false =>
  rw [hu] at HH
  by_cases hbig : 8192 < pn + ln
  · have d1 : (8192 : Int) < (pn : Int) + (ln : Int) := by omega
    clear hu HA HR HQ
    go_enter Try.func3, Try.ntmps3
    go_upto_region 1 with fail
    rw [← hwq]
    clear hwq
    go_wp2_with (first | (go_at_call 4; refine HH.out.mono ?_; rintro e wh ⟨rfl, hbh⟩; have HBH := hidden hbh; obtain ⟨j0, j1, j2, j3, j4, j5, j6⟩ := HJ.out _ hbh; clear hbh) | (go_at_call 5; refine (HLV.out _ (HBQ.out _ HBH.out)).mono ?_; rintro e wl ⟨rfl, hbl⟩))
    go_ret
    exact ⟨rfl, hbl⟩
  have d1 : ¬ (8192 : Int) < (pn : Int) + (ln : Int) := by omega
  by_cases q16 : k = 16
  · subst q16
    clear hu HA HR HQ
    go_enter Try.func3, Try.ntmps3
    go_upto_region 1 with fail
    rw [← hwq]
    clear hwq
    go_wp2_with (first | (go_at_call 4; refine HH.out.mono ?_; rintro e wh ⟨rfl, hbh⟩; have HBH := hidden hbh; obtain ⟨j0, j1, j2, j3, j4, j5, j6⟩ := HJ.out _ hbh; clear hbh) | (go_at_call 5; refine (HLV.out _ (HBQ.out _ HBH.out)).mono ?_; rintro e wl ⟨rfl, hbl⟩))
    go_ret
    exact ⟨rfl, hbl⟩
  by_cases q17 : k = 17
  · subst q17
    clear hu HA HR HQ
    go_enter Try.func3, Try.ntmps3
    go_upto_region 1 with fail
    rw [← hwq]
    clear hwq
    go_wp2_with (first | (go_at_call 4; refine HH.out.mono ?_; rintro e wh ⟨rfl, hbh⟩; have HBH := hidden hbh; obtain ⟨j0, j1, j2, j3, j4, j5, j6⟩ := HJ.out _ hbh; clear hbh) | (go_at_call 5; refine (HLV.out _ (HBQ.out _ HBH.out)).mono ?_; rintro e wl ⟨rfl, hbl⟩))
    go_ret
    exact ⟨rfl, hbl⟩
  by_cases q18 : k = 18
  · subst q18
    clear hu HA HR HQ
    go_enter Try.func3, Try.ntmps3
    go_upto_region 1 with fail
    rw [← hwq]
    clear hwq
    go_wp2_with (first | (go_at_call 4; refine HH.out.mono ?_; rintro e wh ⟨rfl, hbh⟩; have HBH := hidden hbh; obtain ⟨j0, j1, j2, j3, j4, j5, j6⟩ := HJ.out _ hbh; clear hbh) | (go_at_call 5; refine (HLV.out _ (HBQ.out _ HBH.out)).mono ?_; rintro e wl ⟨rfl, hbl⟩))
    go_ret
    exact ⟨rfl, hbl⟩
  have k16 : (k == 16) = false := by simp; omega
  have k17 : (k == 17) = false := by simp; omega
  have k18 : (k == 18) = false := by simp; omega
  have HBG := hidden (fun wh (hb : Below wq.heap.size wq wh) => begin_at ao len cap rs wq wh HA.out hu hb)
  have HPN : Hid (pn ≤ 100000) := by show pn ≤ 100000; omega
  have HQ16 : Hid (k ≠ 16) := q16
  have HDO := hidden fun m d s wr (T : Two wq.heap.size m d wq wr s s []) (ok : OkK s) => does_any wq.heap.size m d s wq wr ⟨k, a, b, c, n, pa, pn, pc, ps, la, ln, lc, xs⟩ (Nat.le_refl _) T ok HR.out HPN.out
  unfold Ac.val at HDO
  simp only at HDO
  clear hu HA HR HQ hbig q16 q17 q18 hpn0 hln0 hk0
  go_enter Try.func3, Try.ntmps3
  go_upto_region 1 with fail
  rw [← hwq]
  clear hwq
  go_upto_region 8 with (first | (go_at_call 4; refine HH.out.mono ?_; rintro e wh ⟨rfl, hbh⟩; have HBH := hidden hbh; obtain ⟨j0, j1, j2, j3, j4, j5, j6⟩ := HJ.out _ hbh; clear hbh) | (go_at_call 6; refine (HBG.out _ HBH.out).mono ?_; rintro e wb ⟨m, rfl, s, RG, HO⟩) | (go_at_call 7; refine (RG.out.bytes HO.out.1).mono ?_; rintro e wc ⟨a', c', gs, rfl, hrow, rg2, _, _⟩; have HRW := hidden hrow; have RG2 := hidden rg2; have HFR := hidden (rg2.kFrame HO.out.1); clear hrow rg2) | (go_at_call 8; refine HFR.out.mono ?_; rintro e wf ⟨rfl, ef⟩; rw [ef]; clear ef))
  have hL : s.bs.length ≤ 2048 := by have := HO.out.1.sz; have := HO.out.2; omega
  have hF : s.fr < 4294967296 := by
    cases ho : s.on with
    | true => have := (HO.out.1.bd ho).1; omega
    | false => have := (HO.out.1.non ho).1; omega
  have wF : IntKind.i64.wrap (s.fr : Int) = (s.fr : Int) := by rw [IntKind.wrap_i64]; omega
  clear HBG HFR RG j0 j1 j2 j3 j4 j5 j6
  go_upto_region 9 with (at_builtin; refine wpList_copyOf (w0 := wc) rfl _ _ rfl s.bs.length c' a' s.bs rfl rfl HRW.out.1 (by omega) ?_; intro g3 c3 w3 ho3 hb3; have HO3 := hidden ho3; have HB3 := hidden hb3; clear ho3 hb3)
  have HT := hidden (Two.newRow RG2.out g3 c3 HO3.out HB3.out)
  have e48 : ((s.size : Nat) : Int) = 2048 := by rw [HO.out.2]; rfl
  rw [e48] at HT
  have hbT := HT.out.base
  obtain ⟨j0, j1, j2, j3, j4, j5, j6⟩ := HJ.out _ hbT
  have HC := hidden (HDO.out _ _ _ _ HT.out HO.out.1)
  have HDR : Hid (∀ d e w', DoesR wq.heap.size m d wq w' s k e → e = .returned (.tuple #[.pointer (some ⟨m, 0, none⟩), .bool true]) ∧ ∃ s', Hid (Two wq.heap.size m d wq w' s' s' []) ∧ Hid (OkK s' ∧ s'.size = 2048)) := fun d e w' hh => by
    obtain ⟨m', s', h1, h2, h3, h4, h5⟩ := hh
    have := h5 HQ16.out
    subst this
    exact ⟨h1, s', h2, h3, h4.trans HO.out.2⟩
  clear HT hbT e48 HO3 HB3 RG2 HRW
  generalize hw4 : w3.alloc (.cells #[.slice (some ⟨g3, 0, none⟩) s.bs.length c3, .int .i64 2048, .int .i64 s.fr, .bool s.on] 37) = w4 at *
  generalize w3.heap.size = d at *
  go_upto_region 11 with (first | (go_at_call 9; refine HC.out.mono ?_; intro e w5 hdr; obtain ⟨rfl, s', HT5, HO5⟩ := HDR.out _ _ _ hdr; clear hdr; obtain ⟨ua, uc, lk⟩ := look_any HT5.out HO5.out.1; have HLK := hidden lk; have HB5 := hidden (HBQ.out _ HT5.out.base); clear lk) | (go_at_call 8; refine (HLK.out.fr _ (Below.refl _ _)).mono ?_; rintro e wf2 ⟨rfl, ef2⟩; rw [ef2]; clear ef2))
  have hB0 : Below w5.heap.size w5 w5.drew := (Below.refl _ _).drew
  have HB0 := hidden hB0
  have hS := HO5.out.2
  have hT1 : ((s'.bs.length : Nat) : Int) ≤ 2048 := by have := HO5.out.1.sz; omega
  have hT2 : ((s'.bs.length : Nat) : Int).tmod 4 = 0 := by rw [Int.tmod_eq_emod_of_nonneg (by omega)]; have := HO5.out.1.mod; omega
  have hT3 := (fr_bd HO5.out.1).2
  have wF2 : IntKind.i64.wrap (s'.fr : Int) = (s'.fr : Int) := by rw [IntKind.wrap_i64]; omega
  have HBW : Hid (∀ wx, Below w5.heap.size w5 wx → Below w.heap.size w wx) := fun wx hb => HB5.out.trans (hb.mono HB5.out.size)
  obtain ⟨t00, t02, t03⟩ := HLK.out.cells _ (Below.refl _ _)
  obtain ⟨t10, t12, t13⟩ := HLK.out.cells _ hB0
  have HL5 : Hid (∀ wx, Below w5.heap.size w5 wx → Calls Try.prog 5 #[] wx fun e w' => e = .returned (.bool true) ∧ Below w5.heap.size w5 w') := fun wx hb => (live_any wx).mono (fun e w' hh => ⟨hh.1, hb.trans (hh.2.mono hb.size)⟩)
  have HTO := hidden HLK.out.top
  have HBY := hidden HLK.out.bytes
  have HSA := hidden HLK.out.same
  have HCE := hidden HLK.out.cells
  clear HT5 HO5 HC HDR HDO hS hL hF wF HO hB0 HLK
  generalize s'.bs.length = L at *
  generalize s'.fr = Fr at *
  generalize s'.on = on at *
  cases on with
  | false =>
    go_region_held3 (fun w' => w'.cell? ⟨d, 0, none⟩ = some (.slice ua L uc) ∧ w'.cell? ⟨d, 2, none⟩ = some (.int .i64 Fr) ∧ w'.cell? ⟨d, 3, none⟩ = some (.bool false)) (first | assumption | exact ⟨by assumption, by assumption, by assumption⟩ | go_keep) (first
      | (go_at_call 10; (with_reducible refine (HTO.out w5.drew HB0.out).mono ?_); rintro e w6 ⟨rfl, hb6⟩; have HB6 := hidden hb6; obtain ⟨t60, t62, t63⟩ := HCE.out _ hb6; clear hb6)
      | (go_at_call 10; (with_reducible refine (HTO.out w6 HB6.out).mono ?_); rintro e w7 ⟨rfl, hb7⟩; have HB7 := hidden hb7; obtain ⟨t70, t72, t73⟩ := HCE.out _ hb7; clear hb7)
      | (go_at_call 7; refine (HBY.out _ HB7.out).mono ?_; rintro e w8 ⟨a8, c8, rfl, HR8, hb8⟩; have HB8 := hidden hb8; obtain ⟨t80, t82, t83⟩ := HCE.out _ hb8; clear hb8)
      | (go_at_call 11; refine (HSA.out _ _ _ HB8.out HR8.out).mono ?_; rintro e w9 ⟨rfl, hb9⟩; have HB9 := hidden hb9; obtain ⟨t90, t92, t93⟩ := HCE.out _ hb9; clear hb9)
      | (go_at_call 5; refine (HL5.out _ HB9.out).mono ?_; rintro e wl ⟨rfl, hbl⟩; have HBL := hidden (HBW.out _ hbl); obtain ⟨tl0, tl2, tl3⟩ := HCE.out _ hbl; clear hbl)
      | fail)
    all_goals (first
      | (go_wp2; go_ret; exact ⟨rfl, HBL.out⟩)
      | go_show)
  | true =>
    go_region_held3 (fun w' => w'.cell? ⟨d, 0, none⟩ = some (.slice ua L uc) ∧ w'.cell? ⟨d, 2, none⟩ = some (.int .i64 Fr) ∧ w'.cell? ⟨d, 3, none⟩ = some (.bool true)) (first | assumption | exact ⟨by assumption, by assumption, by assumption⟩ | go_keep) (first
      | (go_at_call 10; (with_reducible refine (HTO.out w5.drew HB0.out).mono ?_); rintro e w6 ⟨rfl, hb6⟩; have HB6 := hidden hb6; obtain ⟨t60, t62, t63⟩ := HCE.out _ hb6; clear hb6)
      | (go_at_call 10; (with_reducible refine (HTO.out w6 HB6.out).mono ?_); rintro e w7 ⟨rfl, hb7⟩; have HB7 := hidden hb7; obtain ⟨t70, t72, t73⟩ := HCE.out _ hb7; clear hb7)
      | (go_at_call 7; refine (HBY.out _ HB7.out).mono ?_; rintro e w8 ⟨a8, c8, rfl, HR8, hb8⟩; have HB8 := hidden hb8; obtain ⟨t80, t82, t83⟩ := HCE.out _ hb8; clear hb8)
      | (go_at_call 11; refine (HSA.out _ _ _ HB8.out HR8.out).mono ?_; rintro e w9 ⟨rfl, hb9⟩; have HB9 := hidden hb9; obtain ⟨t90, t92, t93⟩ := HCE.out _ hb9; clear hb9)
      | (go_at_call 5; refine (HL5.out _ HB9.out).mono ?_; rintro e wl ⟨rfl, hbl⟩; have HBL := hidden (HBW.out _ hbl); obtain ⟨tl0, tl2, tl3⟩ := HCE.out _ hbl; clear hbl)
      | fail)
    all_goals (first
      | (go_wp2; go_ret; exact ⟨rfl, HBL.out⟩)
      | go_show)
end Go.Proofs.Ythhkennomnmjkaa
