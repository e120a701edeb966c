/- Contract of a stack's method Enter. -/
import Derived.Test.YthhkennomnmjkaaS10l
namespace Go.Proofs.Ythhkennomnmjkaa
open Go.RowKit
set_option maxHeartbeats 1000000
set_option maxRecDepth 100000
set_option linter.unusedVariables false

theorem step_app0 {w : World} {ops : Array Oper} {o : Oper} {a : Act} {K : Act → World → Prop} {Q : Exit → Act → World → Prop} {E : Prop} (hgd : o.guard = none) (s x : Operand)
    (ho : o.op = .call { callee := .builtin .append, args := #[s, x], argTypes := #[24, 3] })
    (base g n cap k : Nat) (zs : List Int) (hs : a.eval s = .slice (some ⟨g, 0, none⟩) n cap) (hx : a.eval x = .int .i64 (k : Int)) (hown : w.ownsRow base 5 1 (.slice (some ⟨g, 0, none⟩) n cap) n (bytesV zs))
    (hbase : base ≤ w.heap.size) (hk : n + k ≤ 4294967296)
    (h : ∀ g' c' w', w'.ownsRow base 5 1 (.slice (some ⟨g', 0, none⟩) (n + k) c') (n + k) (bytesV (zs ++ zer8 k)) → Hid (Fm w w' (fun k => (Value.slice (some ⟨g, 0, none⟩) n cap).ownBlock = some k) (fun j => (Value.slice (some ⟨g', 0, none⟩) (n + k) c').ownBlock = some j)) → K (a.put o.dst (.slice (some ⟨g', 0, none⟩) (n + k) c')) w') :
    if Region.wanted o (yielded ops a.tmps) = true then Oper.wp Try.prog o a w K Q else E := by
  have hw : Region.wanted o (yielded ops a.tmps) = true := by simp [Region.wanted, hgd]
  rw [if_pos hw]
  obtain ⟨g', c', w', hr, ho2, f⟩ := app0_any .i64 .i64 3 Try.underlying3 base g n cap k zs w hown hbase hk
  have hK := h g' c' w' ho2 (f.to (fun j e => by simp only [Value.ownBlock, Option.some.injEq]; exact e.symm) (fun j e => .inr (by simp only [Value.ownBlock, Option.some.injEq] at e; exact e.symm)))
  unfold Oper.wp
  simp [execOp, ho, resolve, invoke, builtin, hs, hx, hr, Result.andThen]
  exact hK
theorem wpList_app8 {w : World} {ops : Array Oper} {rest : List Oper} {o : Oper} {a : Act} {Q : Exit → Act → World → Prop} (hgd : o.guard = none) (s x : Operand)
    (ho : o.op = .call { callee := .builtin .append, args := #[s, x], argTypes := #[24, 24] })
    (base : Nat) (v : Value) (n : Nat) (zs : List Int) (hs : a.eval s = v) (hown : w.ownsRow base 5 1 v n (bytesV zs))
    (ad : Addr) (m c : Nat) (ds : List Int) (hx : a.eval x = .slice (some ad) m c) (hl : ds.length = m) (hnews : ∀ j u, (bytesV ds)[j]? = some u → w.cell? (ad.add j) = some u)
    (h63 : n + m ≤ 4294967296) (hbase : base ≤ w.heap.size) (hm : 0 < m)
    (h : ∀ a' c' w', w'.ownsRow base 5 1 (.slice a' (n + m) c') (n + m) (bytesV (zs ++ ds)) → Hid (Fm w w' (fun k => v.ownBlock = some k) (fun k => (Value.slice a' (n + m) c').ownBlock = some k)) → wpList Try.prog ops Q rest (a.put o.dst (.slice a' (n + m) c')) w') : wpList Try.prog ops Q (o :: rest) a w := by
  obtain ⟨i0, hi, hz0, hz1, hz2⟩ := info_parts info8
  refine wpList_append_at hgd s x 24 ho base 5 i0 (.int .u8 0) 1 1 Try.underlying24 hi hz0 hz1 hz2 rfl (by decide) v n (bytesV zs) hs hown ad m c (bytesV ds) hx (by simp [bytesV, hl]) hnews (bytesV_one ds) (by unfold maxLen; omega) (by omega) hbase hm ?_
  intro v' w' h2 h3 h4
  rw [bytesV_append] at h2
  obtain ⟨a', c', rfl⟩ := own_slice8 h2
  exact h a' c' w' h2 (fm_grown h3 h4.out)
theorem Reads.fm {w w' : World} {x : Addr} {n c : Nat} {zs : List Int} {T T' : Nat → Prop} (h : Reads w (some x) n c zs) (f : Fm w w' T T') (hx : ¬ T x.block) : Reads w' (some x) n c zs := by
  obtain ⟨h1, h2, h3⟩ := h
  refine ⟨h1, h2, .inr ⟨x, rfl, fun i hi => ?_⟩⟩
  rcases h3 with ⟨h3, _⟩ | ⟨y, e, hc⟩
  · cases h3
  · cases e
    have hci := hc i hi
    have hb : (x.add i).block = x.block := by unfold Addr.add; split <;> rfl
    have hlt := World.block_lt_of_cell? _ _ hci
    have e2 : w'.heap[(x.add i).block]? = w.heap[(x.add i).block]? := by rw [hb]; exact f.block x.block (by rw [← hb]; exact hlt) hx
    exact (World.cell?_of_block e2).trans hci
theorem loc_bd (zs : List Int) : (locR zs).2.2 = 0 ∨ (locR zs).2.2 = 102 := by unfold locR; split <;> simp
theorem loc_zero {zs : List Int} (h : (locR zs).2.2 = 0) : locR zs = (posF zs, szF zs, 0) ∧ fmtL zs ≠ 0 ∧ fmtL zs = zs.length := by
  unfold locR at h ⊢
  split at h
  · simp at h
  · rename_i h1
    rw [if_neg h1]
    exact ⟨rfl, fun e => h1 (.inl e), Classical.byContradiction fun e => h1 (.inr e)⟩
theorem kEnter_bad (B m : Nat) (v : Value) (s : Ks) (fa : Option Addr) (n fc : Nat) (zs : List Int) (w : World) (h : KAt B w m v s) (ok : OkK s) (hr : Reads w fa n fc zs) (hz : OkB zs) (hn : n ≤ 100000) (h0 : (locR zs).2.2 ≠ 0) :
    Calls Try.prog 15 #[.pointer (some ⟨m, 0, none⟩), .slice fa n fc] w fun e w' => e = .returned (.int .i64 102) ∧ LeftK B w w' m v s := by
  have HL := hidden (kloc_any fa n fc zs w hr hz (by omega))
  have h1 : (locR zs).2.2 = 102 := (loc_bd zs).resolve_left h0
  rw [h1] at HL
  have HK := hidden h
  generalize (locR zs).1 = P at *
  generalize (locR zs).2.1 = S at *
  clear h ok hr hz h0 h1
  go_enter Try.func15, Try.ntmps15
  go_wp2_with (first | (go_at_call 12; refine HL.out.mono ?_; rintro e w1 ⟨rfl, hb⟩))
  go_ret
  exact ⟨rfl, LeftK.same HK.out hb⟩
theorem kEnter_stub (B m : Nat) (v : Value) (s : Ks) (fa : Option Addr) (n fc : Nat) (zs : List Int) (w : World) (h : KAt B w m v s) (ok : OkK s) (hr : Reads w fa n fc zs) (hz : OkB zs) (hn : n ≤ 100000) (h0 : (locR zs).2.2 = 0) (hon : s.on = true) (hs : stubE s ≠ 0) :
    Calls Try.prog 15 #[.pointer (some ⟨m, 0, none⟩), .slice fa n fc] w fun e w' => e = .returned (.int .i64 102) ∧ LeftK B w w' m v s := by
  have HL := hidden (kloc_any fa n fc zs w hr hz (by omega))
  rw [h0] at HL
  obtain ⟨a, c, rfl, kc⟩ := h.kc'
  have HST : Hid (∀ w1, Below w.heap.size w w1 → w1.cell? ⟨m, 3, none⟩ = some (.bool true) ∧ Calls Try.prog 47 #[.pointer (some ⟨m, 0, none⟩)] w1 fun e w' => e = .returned (.int .i64 (stubE s)) ∧ Below w.heap.size w w') := fun w1 hb => ⟨by have := (kc.later hb).c3; rwa [hon] at this, (kstub_any m a c s w1 (kc.later hb) ok).mono (fun e w' hh => ⟨hh.1, hb.trans (hh.2.below.mono hb.size)⟩)⟩
  have HK := hidden h
  generalize (locR zs).1 = P at *
  generalize (locR zs).2.1 = S at *
  generalize stubE s = E at *
  have q : ((E : Int) == 0) = false := by simpa using hs
  have q2 : ¬ (E : Int) = 0 := by omega
  clear h ok hr hz h0 kc hon
  go_enter Try.func15, Try.ntmps15
  go_wp2_with (first | (go_at_call 12; refine HL.out.mono ?_; rintro e w1 ⟨rfl, hb⟩; obtain ⟨k3, hs1⟩ := HST.out _ hb; have HS1 := hidden hs1; clear hs1) | (go_at_call 47; refine HS1.out.mono ?_; rintro e w2 ⟨rfl, hb2⟩))
  go_ret
  exact ⟨rfl, LeftK.same HK.out hb2⟩
theorem kEnter_over (B m : Nat) (v : Value) (s : Ks) (fa : Option Addr) (n fc : Nat) (zs : List Int) (w : World) (h : KAt B w m v s) (ok : OkK s) (hr : Reads w fa n fc zs) (hz : OkB zs) (hn : n ≤ 100000) (h0 : (locR zs).2.2 = 0) (hs : s.on = true → stubE s = 0) (hro : roomE s (posF zs + szF zs) ≠ 0) :
    Calls Try.prog 15 #[.pointer (some ⟨m, 0, none⟩), .slice fa n fc] w fun e w' => e = .returned (.int .i64 100) ∧ LeftK B w w' m v s := by
  obtain ⟨e1, e2, e3⟩ := loc_zero h0
  have HL := hidden (kloc_any fa n fc zs w hr hz (by omega))
  rw [e1] at HL
  simp only at HL
  obtain ⟨a, c, rfl, kc⟩ := h.kc'
  have hpr := pairs_of zs hz e2
  rw [e3, List.take_length] at hpr
  have hbd := (enL_mono zs 0 hpr).2
  have hps := (posF_mod zs).2.2
  have hss := upN_bd (enL zs 0) 4 (by simp)
  have hss2 : szF zs = upN (enL zs 0) 4 := rfl
  have hzl := hr.1
  have HRO : Hid (∀ w1, Below w.heap.size w w1 → Calls Try.prog 48 #[.pointer (some ⟨m, 0, none⟩), .int .i64 (posF zs + szF zs : Nat)] w1 fun e w' => e = .returned (.int .i64 (roomE s (posF zs + szF zs))) ∧ Below w.heap.size w w') := fun w1 hb => (kroom_any m a c s _ w1 (kc.later hb) ok).mono (fun e w' hh => ⟨hh.1, hb.trans (hh.2.below.mono hb.size)⟩)
  have ec : ((posF zs + szF zs : Nat) : Int) = (posF zs : Int) + (szF zs : Int) := by omega
  rw [ec] at HRO
  have hw : IntKind.i64.wrap ((posF zs : Int) + (szF zs : Int)) = (posF zs : Int) + (szF zs : Int) := by rw [IntKind.wrap_i64]; omega
  have hr1 := (room_bd s (posF zs + szF zs)).resolve_left hro
  rw [hr1] at HRO
  have HST : Hid (∀ w1, Below w.heap.size w w1 → w1.cell? ⟨m, 3, none⟩ = some (.bool s.on) ∧ Calls Try.prog 47 #[.pointer (some ⟨m, 0, none⟩)] w1 fun e w' => e = .returned (.int .i64 (stubE s)) ∧ Below w.heap.size w w') := fun w1 hb => ⟨(kc.later hb).c3, (kstub_any m a c s w1 (kc.later hb) ok).mono (fun e w' hh => ⟨hh.1, hb.trans (hh.2.below.mono hb.size)⟩)⟩
  have HK := hidden h
  clear h ok hr hz kc e1 e2 e3 hpr hbd hps hss hss2 ec hro hr1 h0 hzl
  generalize posF zs = P at *
  generalize szF zs = S at *
  cases hon : s.on with
  | false =>
    rw [hon] at HST
    clear hs
    go_enter Try.func15, Try.ntmps15
    go_wp2_with (first | (go_at_call 12; refine HL.out.mono ?_; rintro e w1 ⟨rfl, hb⟩; obtain ⟨k3, -⟩ := HST.out _ hb) | (go_at_call 48; refine (HRO.out _ hb).mono ?_; rintro e w2 ⟨rfl, hb2⟩))
    go_ret
    exact ⟨rfl, LeftK.same HK.out hb2⟩
  | true =>
    rw [hon, hs hon] at HST
    clear hs
    go_enter Try.func15, Try.ntmps15
    go_wp2_with (first | (go_at_call 12; refine HL.out.mono ?_; rintro e w1 ⟨rfl, hb⟩; obtain ⟨k3, hs1⟩ := HST.out _ hb; have HS1 := hidden hs1; clear hs1) | (go_at_call 47; refine HS1.out.mono ?_; rintro e w2 ⟨rfl, hb2⟩) | (go_at_call 48; refine (HRO.out _ hb2).mono ?_; rintro e w3 ⟨rfl, hb3⟩))
    go_ret
    exact ⟨rfl, LeftK.same HK.out hb3⟩
end Go.Proofs.Ythhkennomnmjkaa
