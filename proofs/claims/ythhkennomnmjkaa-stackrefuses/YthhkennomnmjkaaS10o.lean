/- copy over a row of bytes that is owned; contracts of a stack's methods Roll and Swap. -/
import Derived.Test.YthhkennomnmjkaaS10l
import Derived.Deep.RegionLaw
namespace Go.Proofs.Ythhkennomnmjkaa
open Go.RowKit
set_option maxHeartbeats 1000000
set_option maxRecDepth 100000
set_option linter.unusedVariables false

theorem copy8_run (w : World) (ty : TypeId) (B g n cap : Nat) (zs : List Int) (ho : w.ownsRow B 5 1 (.slice (some ⟨g, 0, none⟩) n cap) n (bytesV zs)) (dp : Option Addr) (off dl dc : Nat) (sp : Option Addr) (sl sc : Nat) (ds : List Int) (hd : ds.length = Nat.min sl dl)
    (hpos : 0 < ds.length → dp = some ⟨g, off, none⟩ ∧ ∃ ad, sp = some ad ∧ ∀ j u, (bytesV ds)[j]? = some u → w.cell? (ad.add j) = some u) (hfit : off + ds.length ≤ n) :
    ∃ w', (Builtin.copy_ #[24, 24] ty #[.slice dp dl dc, .slice sp sl sc]).run Try.prog w = .ok (goInt ds.length) w' ∧ w'.ownsRow B 5 1 (.slice (some ⟨g, 0, none⟩) n cap) n (bytesV (splice zs off ds)) ∧ Fm w w' (fun k => (Value.slice (some ⟨g, 0, none⟩) n cap).ownBlock = some k) (fun k => (Value.slice (some ⟨g, 0, none⟩) n cap).ownBlock = some k) := by
  by_cases h0 : ds.length = 0
  · obtain rfl : ds = [] := List.eq_nil_of_length_eq_zero h0
    refine ⟨w, run_copy_none (P := Try.prog) w _ _ ty 5 dp sp dl dc sl sc Try.underlying24 info8s hd.symm, ?_, Fm.same (Below.refl _ _)⟩
    have e : splice zs off [] = zs := by simp [splice]
    rw [e]; exact ho
  · obtain ⟨rfl, ad, rfl, hs⟩ := hpos (by omega)
    obtain ⟨cur, h1, h2, h3, h4, h5, h6⟩ := own_splice ho
    have hbl : (bytesV ds).length = ds.length := by simp [bytesV]
    have hrun := run_copy_row (P := Try.prog) w 24 24 ty 5 g off dl dc ad sl sc cur.toArray 5 (bytesV ds) Try.underlying24 info8s h1 (by rw [hbl]; exact hd) hs (by simp; omega) (bytesV_one ds)
    rw [hbl] at hrun
    refine ⟨_, hrun, h6 _ off ds hfit ?_, ?_⟩
    · have := setRow_heap w g cur.toArray (cur.take off ++ bytesV ds ++ cur.drop (off + ds.length)).toArray 5 (0, 0) h1
      simpa [splice, hbl, List.append_assoc] using this
    · exact ⟨rfl, rfl, rfl, by simp [World.setRow], fun k _ hk => setRow_other w g k _ (fun e => hk (by rw [e]; rfl)), fun k hk => .inl hk⟩
theorem wpList_copy8 {w : World} {ops : Array Oper} {rest : List Oper} {o : Oper} {a : Act} {Q : Exit → Act → World → Prop} (hgd : o.guard = none) (d s : Operand)
    (hop : o.op = .call { callee := .builtin .copy, args := #[d, s], argTypes := #[24, 24] }) (B g n cap : Nat) (zs : List Int) (ho : w.ownsRow B 5 1 (.slice (some ⟨g, 0, none⟩) n cap) n (bytesV zs)) (dp : Option Addr) (off dl dc : Nat) (sp : Option Addr) (sl sc : Nat)
    (hde : a.eval d = .slice dp dl dc) (hse : a.eval s = .slice sp sl sc) (ds : List Int) (hd : ds.length = Nat.min sl dl)
    (hpos : 0 < ds.length → dp = some ⟨g, off, none⟩ ∧ ∃ ad, sp = some ad ∧ ∀ j u, (bytesV ds)[j]? = some u → w.cell? (ad.add j) = some u) (hfit : off + ds.length ≤ n)
    (h : ∀ w', w'.ownsRow B 5 1 (.slice (some ⟨g, 0, none⟩) n cap) n (bytesV (splice zs off ds)) → Hid (Fm w w' (fun k => (Value.slice (some ⟨g, 0, none⟩) n cap).ownBlock = some k) (fun k => (Value.slice (some ⟨g, 0, none⟩) n cap).ownBlock = some k)) → wpList Try.prog ops Q rest (a.put o.dst (goInt ds.length)) w') : wpList Try.prog ops Q (o :: rest) a w := by
  refine wpList_plain hgd fun K hK => ?_
  obtain ⟨w', hrun, h1, h2⟩ := copy8_run w o.type B g n cap zs ho dp off dl dc sp sl sc ds hd hpos hfit
  unfold Oper.wp
  simp [execOp, hop, resolve, invoke, builtin, hde, hse, hrun, Result.andThen]
  exact hK _ _ (h w' h1 h2)
theorem step_copy8 {w : World} {ops : Array Oper} {o : Oper} {a : Act} {K : Act → World → Prop} {Q : Exit → Act → World → Prop} {E : Prop} (hgd : o.guard = none) (d s : Operand)
    (hop : o.op = .call { callee := .builtin .copy, args := #[d, s], argTypes := #[24, 24] }) (B g n cap : Nat) (zs : List Int) (ho : w.ownsRow B 5 1 (.slice (some ⟨g, 0, none⟩) n cap) n (bytesV zs)) (dp : Option Addr) (off dl dc : Nat) (sp : Option Addr) (sl sc : Nat)
    (hde : a.eval d = .slice dp dl dc) (hse : a.eval s = .slice sp sl sc) (ds : List Int) (hd : ds.length = Nat.min sl dl)
    (hpos : 0 < ds.length → dp = some ⟨g, off, none⟩ ∧ ∃ ad, sp = some ad ∧ ∀ j u, (bytesV ds)[j]? = some u → w.cell? (ad.add j) = some u) (hfit : off + ds.length ≤ n)
    (h : ∀ w', w'.ownsRow B 5 1 (.slice (some ⟨g, 0, none⟩) n cap) n (bytesV (splice zs off ds)) → Hid (Fm w w' (fun k => (Value.slice (some ⟨g, 0, none⟩) n cap).ownBlock = some k) (fun k => (Value.slice (some ⟨g, 0, none⟩) n cap).ownBlock = some k)) → K (a.put o.dst (goInt ds.length)) w') :
    if Region.wanted o (yielded ops a.tmps) = true then Oper.wp Try.prog o a w K Q else E := by
  have hw : Region.wanted o (yielded ops a.tmps) = true := by simp [Region.wanted, hgd]
  rw [if_pos hw]
  obtain ⟨w', hrun, h1, h2⟩ := copy8_run w o.type B g n cap zs ho dp off dl dc sp sl sc ds hd hpos hfit
  unfold Oper.wp
  simp [execOp, hop, resolve, invoke, builtin, hde, hse, hrun, Result.andThen]
  exact h w' h1 h2
/-- the two copies of a roll -/
theorem roll_two (zs : List Int) (n r : Nat) (hn : 4 * n ≤ zs.length) (hr : r < n) :
    splice (splice zs (zs.length - 4 * n + 4 * r) ((seg zs (zs.length - 4 * n) (4 * n)).take (4 * n - 4 * r))) (zs.length - 4 * n) ((seg zs (zs.length - 4 * n) (4 * n)).drop (4 * n - 4 * r)) = rollL zs n r := by
  unfold rollL seg
  have e0 : (zs.drop (zs.length - 4 * n)).take (4 * n) = zs.drop (zs.length - 4 * n) := List.take_of_length_le (by simp; omega)
  rw [e0, List.drop_drop, show zs.length - 4 * n + (4 * n - 4 * r) = zs.length - 4 * r by omega]
  generalize hD : (zs.drop (zs.length - 4 * n)).take (4 * n - 4 * r) = D
  generalize hE : zs.drop (zs.length - 4 * r) = E
  have hDl : D.length = 4 * n - 4 * r := by rw [← hD]; simp; omega
  have hEl : E.length = 4 * r := by rw [← hE]; simp; omega
  simp only [splice, hDl, hEl]
  have hp : (zs.take (zs.length - 4 * n + 4 * r)).length = zs.length - 4 * n + 4 * r := by simp; omega
  have a1 : zs.length - 4 * n + 4 * r + (4 * n - 4 * r) = zs.length := by omega
  rw [a1, List.drop_length, List.append_nil]
  rw [List.take_append_of_le_length (by omega), List.take_take, Nat.min_eq_left (by omega)]
  congr 1
  congr 1
  rw [List.drop_append, List.drop_of_length_le (by omega), List.nil_append, hp, Nat.sub_self, List.drop_zero]
theorem rollL_len (zs : List Int) (n r : Nat) (hn : 4 * n ≤ zs.length) (hr : r < n) : (rollL zs n r).length = zs.length := by
  unfold rollL
  simp; omega
theorem roll_emod (n k : Nat) (h : 0 < n) : (wrap32 (k : Int)) % (n : Int) = (rollR n k : Int) := by
  have h1 := Int.emod_nonneg (wrap32 (k : Int)) (show (n : Int) ≠ 0 by omega)
  unfold rollR
  generalize wrap32 (k : Int) % (n : Int) = X at *
  omega
theorem wrap32_64 (x : Int) : IntKind.i64.wrap (wrap32 x) = wrap32 x := by
  have := wrap32_range x
  generalize wrap32 x = y at *
  rw [IntKind.wrap_i64]; omega
theorem kRoll_nil (x y : Int) (w : World) : Calls Try.prog 17 #[.pointer none, .int .u32 x, .int .u32 y] w fun e w' => e = .returned (.int .i64 8) ∧ w' = w := by
  go_enter Try.func17, Try.ntmps17
  go_wp2_with (go_at_call 51; refine (klacks_nil _ _).mono ?_; rintro e w1 ⟨rfl, rfl⟩)
  go_ret
  exact ⟨rfl, rfl⟩
theorem kSwap_nil (w : World) : Calls Try.prog 29 #[.pointer none] w fun e w' => e = .returned (.int .i64 8) ∧ w' = w := by
  go_enter Try.func29, Try.ntmps29
  go_wp2_with (go_at_call 17; refine (kRoll_nil _ _ _).mono ?_; rintro e w1 ⟨rfl, rfl⟩)
  go_ret
  exact ⟨rfl, rfl⟩
theorem kRoll_few (B m n k : Nat) (v : Value) (s : Ks) (w : World) (h : KAt B w m v s) (ok : OkK s) (hn : n < 4294967296) (hk : k < 4294967296) (h0 : ¬ (rollE s n = 0 ∧ n ≠ 0)) :
    Calls Try.prog 17 #[.pointer (some ⟨m, 0, none⟩), .int .u32 n, .int .u32 k] w fun e w' => e = .returned (.int .i64 (rollE s n)) ∧ LeftK B w w' m v s := by
  obtain ⟨a, c, rfl, kc⟩ := h.kc'
  have HL := hidden (klacks_any m a c s n w kc ok)
  have hw : IntKind.i64.wrap (n : Int) = (n : Int) := by rw [IntKind.wrap_i64]; omega
  have HK := hidden h
  unfold rollE at h0 ⊢
  generalize lackE s n = E at *
  clear h kc ok
  by_cases hE : E = 0
  · subst hE
    obtain rfl : n = 0 := Classical.byContradiction fun e => h0 ⟨rfl, e⟩
    go_enter Try.func17, Try.ntmps17
    go_wp2_with (first | (go_at_call 51; refine HL.out.mono ?_; rintro e w1 ⟨rfl, hd⟩))
    go_ret
    exact ⟨rfl, LeftK.dr HK.out hd⟩
  · have q : ((E : Int) == 0) = false := by simpa using hE
    have q2 : ¬ (E : Int) = 0 := by omega
    clear h0
    go_enter Try.func17, Try.ntmps17
    go_wp2_with (first | (go_at_call 51; refine HL.out.mono ?_; rintro e w1 ⟨rfl, hd⟩))
    go_ret
    exact ⟨rfl, LeftK.dr HK.out hd⟩
set_option maxHeartbeats 1000000 in
theorem kRoll_good (B m n k : Nat) (v : Value) (s : Ks) (w : World) (h : KAt B w m v s) (ok : OkK s) (hn : n < 4294967296) (hk : k < 4294967296) (h0 : rollE s n = 0) (h1 : n ≠ 0) :
    Calls Try.prog 17 #[.pointer (some ⟨m, 0, none⟩), .int .u32 n, .int .u32 k] w fun e w' => e = .returned (.int .i64 0) ∧ LeftK B w w' m v { s with bs := rollL s.bs n (rollR n k) } := by
  obtain ⟨a, c, rfl, kc⟩ := h.kc'
  have HL := hidden (klacks_any m a c s n w kc ok)
  rw [show lackE s n = 0 from h0] at HL
  obtain ⟨hon, hcn⟩ := lack_zero h0
  obtain ⟨b1, b2, b3, b4, b5, b6⟩ := ok.bd hon
  have hsz := ok.sz
  have hmo := ok.most
  obtain ⟨g, rfl⟩ := KC.isSome h (show 0 < s.bs.length by omega)
  have hcp : s.bs.length ≤ c := kc.rd.2.1
  have hn4 : 4 * n ≤ s.bs.length := by omega
  have hrl := rollR_lt n k (by omega)
  have HT : Hid (∀ w1, Dr w w1 → Calls Try.prog 52 #[.pointer (some ⟨m, 0, none⟩), .int .i64 n] w1 fun e w' => e = .returned (.slice (some ⟨g, s.bs.length - 4 * n, none⟩) (4 * n) (c - (s.bs.length - 4 * n))) ∧ Dr w w') := fun w1 hd => by
    have := ktop_any m g c n s w1 (kc.later hd.below) ok hn4
    exact this.mono (fun e w' hh => by
      obtain ⟨⟨p, he, hp⟩, hd2⟩ := hh
      rw [hp (by omega)] at he
      exact ⟨he, hd.trans hd2⟩)
  have HC : Hid (∀ w1, Dr w w1 → Calls Try.prog 24 #[.slice (some ⟨g, s.bs.length - 4 * n, none⟩) (4 * n) (c - (s.bs.length - 4 * n))] w1 fun e w' => ∃ g' c', e = .returned (.slice (some ⟨g', 0, none⟩) (4 * n) c') ∧ 4 * n ≤ c' ∧ Hid (w'.ownsRow w1.heap.size 5 1 (.slice (some ⟨g', 0, none⟩) (4 * n) c') (4 * n) (bytesV (seg s.bs (s.bs.length - 4 * n) (4 * n)))) ∧ Hid (w'.ownsRow B 5 1 (.slice (some ⟨g, 0, none⟩) s.bs.length c) s.bs.length (bytesV s.bs)) ∧ Hid (Below w.heap.size w w') ∧ Hid (g ≠ g')) := fun w1 hd => by
    refine (bclone_any _ (4 * n) _ _ w1 (top_reads (kc.later hd.below) hn4) (by omega)).mono ?_
    rintro e w' ⟨a', c', rfl, ho, hb⟩
    obtain ⟨g', cap, e1, e2, e3⟩ := owned_shape ho (by omega)
    simp only [Value.slice.injEq] at e1
    obtain ⟨rfl, _, rfl⟩ := e1
    refine ⟨g', c', rfl, e2, ho, own_later (h.later hd.below).row hb, hd.below.trans (hb.mono hd.below.size), fun e => ?_⟩
    have := ((h.later hd.below).row.lt g rfl).2
    omega
  have HRS : Hid (∀ wx, Calls Try.prog 53 #[.int .i64 (wrap32 (k : Int)), .int .i64 n] wx fun e w' => e = .returned (.int .i64 (rollR n k)) ∧ w' = wx) := fun wx => by
    have := krest_any (wrap32 (k : Int)) n wx (by omega) (by omega)
    have e := roll_emod n k (by omega)
    rwa [e] at this
  have HRT := hidden (roll_two s.bs n (rollR n k) hn4 hrl)
  have HSL := hidden (seg_len s.bs (s.bs.length - 4 * n) (4 * n) (by omega))
  have HFIN : Hid (∀ w', LeftK B w w' m (.slice (some ⟨g, 0, none⟩) s.bs.length c) { s with bs := rollL s.bs n (rollR n k) } ↔ LeftK B w w' m (.slice (some ⟨g, 0, none⟩) s.bs.length c) { s with bs := rollL s.bs n (rollR n k) }) := fun w' => Iff.rfl
  have HEND : Hid (∀ w3 w5, Below w.heap.size w w3 → Fm w3 w5 (fun j => (Value.slice (some ⟨g, 0, none⟩) s.bs.length c).ownBlock = some j) (fun j => (Value.slice (some ⟨g, 0, none⟩) s.bs.length c).ownBlock = some j) → w5.ownsRow B 5 1 (.slice (some ⟨g, 0, none⟩) s.bs.length c) s.bs.length (bytesV (rollL s.bs n (rollR n k))) → LeftK B w w5 m (.slice (some ⟨g, 0, none⟩) s.bs.length c) { s with bs := rollL s.bs n (rollR n k) }) := fun w3 w5 hb f ho => by
    obtain ⟨g1, g2⟩ := h.inplace ((Fm.same hb).trans f) (rollL_len s.bs n (rollR n k) hn4 hrl) ho
    exact ⟨_, g1, g2⟩
  clear h kc ok h0 hon hcn b1 b2 b3 b4 b5 b6 HFIN
  generalize rollR n k = r at *
  generalize rollL s.bs n r = RL at *
  generalize hseg : seg s.bs (s.bs.length - 4 * n) (4 * n) = sg at *
  generalize hbs : s.bs.length = L at *
  have HLS := hidden hbs
  have hw1 : IntKind.i64.wrap (n : Int) = (n : Int) := by rw [IntKind.wrap_i64]; omega
  have hw3 := wrap32_64 (k : Int)
  have hw4 : IntKind.i64.wrap (4 * (r : Int)) = 4 * (r : Int) := by rw [IntKind.wrap_i64]; omega
  clear hseg hbs hk
  obtain ⟨T, hT⟩ : ∃ T, L - 4 * n = T := ⟨_, rfl⟩
  rw [hT] at HT HC HRT
  obtain ⟨M, hM⟩ : ∃ M, 4 * n = M := ⟨_, rfl⟩
  rw [hM] at HT HC HRT HSL
  have hL : L = T + M := by omega
  have hr4 : 4 * r < M := by omega
  have hMm : M ≤ 65536 := by omega
  have HSZ : Hid (s.bs.length = T + M) := by
    have := HLS.out
    rw [← hL]; exact this
  have HLEN1 : Hid ((sg.take (M - 4 * r)).length = Nat.min M (M - 4 * r)) := by
    show _ = min M (M - 4 * r)
    rw [List.length_take, HSL.out]; omega
  have HLE1 : Hid (T + 4 * r + (sg.take (M - 4 * r)).length ≤ L) := by
    show T + 4 * r + _ ≤ L
    rw [List.length_take, HSL.out]; omega
  have HS1 : Hid (∀ (wx : World) (B' g' c' : Nat), wx.ownsRow B' 5 1 (.slice (some ⟨g', 0, none⟩) M c') M (bytesV sg) → ∀ j u, (bytesV (sg.take (M - 4 * r)))[j]? = some u → wx.cell? ((⟨g', 0, none⟩ : Addr).add j) = some u) := fun wx B' g' c' ho j u hj => by
    refine src8 ho j u ?_
    unfold bytesV at hj ⊢
    rw [List.map_take] at hj
    rw [List.getElem?_take] at hj
    split at hj
    · exact hj
    · cases hj
  obtain ⟨Y, hY⟩ : ∃ Y, M - 4 * r = Y := ⟨_, rfl⟩
  have hw5 : IntKind.i64.wrap ((M : Int) - 4 * (r : Int)) = (Y : Int) := by rw [IntKind.wrap_i64]; omega
  have hYM : M - Y = 4 * r := by omega
  have HLEN2 : Hid ((sg.drop Y).length = Nat.min (M - Y) (4 * r)) := by
    show _ = min (M - Y) (4 * r)
    rw [List.length_drop, HSL.out]; omega
  have HLE2 : Hid (T + (sg.drop Y).length ≤ L) := by
    show T + _ ≤ L
    rw [List.length_drop, HSL.out]; omega
  have HS2 : Hid (∀ (wx : World) (B' g' c' P : Nat), wx.ownsRow B' 5 1 (.slice (some ⟨g', 0, none⟩) M c') M (bytesV sg) → (0 < r → P = Y) → 0 < (sg.drop Y).length → ∀ j u, (bytesV (sg.drop Y))[j]? = some u → wx.cell? ((⟨g', P, none⟩ : Addr).add j) = some u) := fun wx B' g' c' P ho hP h0 => by
    have hr0 : 0 < r := by
      rw [List.length_drop, HSL.out] at h0; omega
    intro j u hj
    rw [hP hr0]
    have : (bytesV sg)[Y + j]? = some u := by
      unfold bytesV at hj ⊢
      rw [List.map_drop, List.getElem?_drop] at hj
      exact hj
    have := src8 ho (Y + j) u this
    rw [plain_add] at this ⊢
    rw [Nat.zero_add] at this
    exact this
  have HRT2 : Hid (splice (splice s.bs (T + 4 * r) (sg.take (M - 4 * r))) T (sg.drop Y) = RL) := by rw [← hY]; exact HRT
  have HYM := hidden hYM
  have HML := hidden hL
  have hTL : T ≤ L := by omega
  have hYM2 : Y ≤ M := by omega
  have hTc : T + M ≤ c := by omega
  clear HRT hT hM hL hYM hY HLS HSZ
  go_enter Try.func17, Try.ntmps17
  go_wp2_with (first | (go_at_call 51; refine HL.out.mono ?_; rintro e w1 ⟨rfl, hd1⟩) | (go_at_call 52; refine (HT.out _ hd1).mono ?_; rintro e w2 ⟨rfl, hd2⟩) | (go_at_call 24; refine (HC.out _ hd2).mono ?_; rintro e w3 ⟨g', c', rfl, hc', ho', ho, hb3, hgg⟩) | (go_at_call 53; refine (HRS.out _).mono ?_; rintro e w4 ⟨rfl, rfl⟩) | (refine wpList_copy8 rfl (.tmp 37) (.tmp 38) rfl B g L c s.bs ho.out (some ⟨g, T + 4 * r, none⟩) (T + 4 * r) (M - 4 * r) (c - T - 4 * r) (some ⟨g', 0, none⟩) M c' rfl rfl (sg.take (M - 4 * r)) HLEN1.out (fun _ => ⟨rfl, _, rfl, HS1.out _ _ _ _ ho'.out⟩) HLE1.out ?_; intro w5 ho5 f5; have HO5 := hidden ho5; clear ho5))
  obtain ⟨P, hif, hPr⟩ : ∃ P, (if c' = Y then some (⟨g', 0, none⟩ : Addr) else some ⟨g', Y, none⟩) = some ⟨g', P, none⟩ ∧ (0 < r → P = Y) := by
    by_cases e : c' = Y
    · exact ⟨0, if_pos e, fun h => by have := HYM.out; omega⟩
    · exact ⟨Y, if_neg e, fun _ => rfl⟩
  have HPR := hidden hPr
  have HO5' : Hid (w5.ownsRow w2.heap.size 5 1 (.slice (some ⟨g', 0, none⟩) M c') M (bytesV sg)) := own8_fm f5.out ho'.out (fun j e e2 => hgg.out (by simp only [Value.ownBlock, Option.some.injEq] at e e2; omega))
  clear hPr
  have x1 : (0 : Int) ≤ 4 * (r : Int) := by omega
  have x2 : 4 * (r : Int) ≤ ((c - T : Nat) : Int) := by omega
  have x3 : (4 * (r : Int)).toNat = 4 * r := by omega
  go_region_held3 (fun _ => True) (trivial) (first | (refine step_copy8 (by rfl) (.tmp 42) (.tmp 48) (by rfl) B g L c _ (own_later HO5.out ((Below.refl _ _).drew)) (some ⟨g, T, none⟩) T (4 * r) (c - T) (some ⟨g', P, none⟩) (M - Y) (c' - Y) (by rfl) (by rfl) (sg.drop Y) HLEN2.out (fun h0 => ⟨rfl, _, rfl, HS2.out _ _ _ _ _ (own_later HO5'.out ((Below.refl _ _).drew)) HPR.out h0⟩) HLE2.out ?_; intro w6 ho6 f6) | fail)
  all_goals go_wp2
  all_goals go_ret
  all_goals (
    rw [HRT2.out] at ho6
    exact ⟨rfl, HEND.out _ _ hb3.out ((f5.out.trans (Fm.same ((Below.refl _ _).drew))).trans f6.out) ho6⟩)
theorem kRoll_any (B m n k : Nat) (v : Value) (s : Ks) (w : World) (h : KAt B w m v s) (ok : OkK s) (hn : n < 4294967296) (hk : k < 4294967296) :
    Calls Try.prog 17 #[.pointer (some ⟨m, 0, none⟩), .int .u32 n, .int .u32 k] w fun e w' => e = .returned (.int .i64 (rollE s n)) ∧ LeftK B w w' m v (rollS s n k) := by
  unfold rollS
  by_cases h0 : rollE s n = 0 ∧ n ≠ 0
  · rw [if_pos h0, h0.1]
    exact kRoll_good B m n k v s w h ok hn hk h0.1 h0.2
  · rw [if_neg h0]
    exact kRoll_few B m n k v s w h ok hn hk h0
theorem kSwap_any (B m : Nat) (v : Value) (s : Ks) (w : World) (h : KAt B w m v s) (ok : OkK s) :
    Calls Try.prog 29 #[.pointer (some ⟨m, 0, none⟩)] w fun e w' => e = .returned (.int .i64 (rollE s 2)) ∧ LeftK B w w' m v (rollS s 2 1) := by
  have HR := hidden (kRoll_any B m 2 1 v s w h ok (by omega) (by omega))
  clear h ok
  generalize rollE s 2 = E at *
  generalize rollS s 2 1 = S at *
  go_enter Try.func29, Try.ntmps29
  go_wp2_with (first | (go_at_call 17; refine HR.out.mono ?_; rintro e w1 ⟨rfl, hl⟩))
  go_ret
  exact ⟨rfl, hl⟩
end Go.Proofs.Ythhkennomnmjkaa
