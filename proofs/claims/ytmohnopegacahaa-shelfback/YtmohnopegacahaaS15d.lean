/- Layer 15, the program: a character put into a file, into a buffer. -/
import Derived.Test.YtmohnopegacahaaS15c
import Derived.Lib.AppendZeros
namespace Go.Proofs.Ytmohnopegacahaa
open Go.RowKit
set_option maxHeartbeats 1000000
set_option maxRecDepth 100000
set_option linter.unusedVariables false

theorem app0_nil (B k : Nat) (w : World) (hB : B ≤ w.heap.size) (hk : k ≤ 4294967296) (h0 : 0 < k) :
    ∃ g' cap' w', (∀ ty, (Builtin.append_ #[41, 3] ty #[.slice none 0 0, .int .i64 k]).run Try.prog w = .ok (.slice (some ⟨g', 0, none⟩) k cap') w') ∧ w'.ownsRow B 5 1 (.slice (some ⟨g', 0, none⟩) k cap') k (bytesV (zer8 k)) ∧ Below w.heap.size w w' ∧ w.heap.size ≤ g' := by
  obtain ⟨i0, hi, hz0, hz1, hz2⟩ := info_parts info8
  have hrun := fun ty => Lib.run_append_nil_zeros (P := Try.prog) w 41 3 ty 5 i0 (.int .u8 0) .i64 .i64 Try.underlying41 Try.underlying3 hi hz0 k h0 (by omega) (by omega) (by rw [hz2]; omega)
  have hge := grownCap_ge w k 0 5
  have hcm : grownCap w k 0 5 ≤ maxLen := grownCap_le_maxLen w k 0 5 (by unfold maxLen; omega)
  have hh := heap_alloc_new w.drew (.cells (Builtin.zeroCells (Value.int .u8 0).cells k ++ Builtin.zeroCells (Value.int .u8 0).cells (grownCap w k 0 5 - k)) 5)
  have hb : Below w.heap.size w (w.drew.alloc (.cells (Builtin.zeroCells (Value.int .u8 0).cells k ++ Builtin.zeroCells (Value.int .u8 0).cells (grownCap w k 0 5 - k)) 5)) := ⟨rfl, rfl, rfl, by simp, fun k hk => Go.heap_alloc_old _ _ hk⟩
  have hc : (Builtin.zeroCells (Value.int .u8 0).cells k ++ Builtin.zeroCells (Value.int .u8 0).cells (grownCap w k 0 5 - k)) = (bytesV (zer8 k) ++ bytesV (zer8 (grownCap w k 0 5 - k))).toArray := by rw [zc8a, zc8a]; simp
  rw [hc] at hh hb
  simp only [hc] at hrun
  have hb2 : ∀ q, (bytesV (zer8 q)).length = q := fun q => by simp [bytesV, zer8]
  refine ⟨w.heap.size, _, _, hrun, ?_, hb, Nat.le_refl _⟩
  exact own8_of (by simpa using hB) hh hge hcm (by simp only [List.length_append, hb2]; omega) (by rw [List.take_left' (hb2 k)]) (zer8_len k)
theorem app0_v (B : Nat) (v : Value) (n k : Nat) (zs : List Int) (w : World) (ho : w.ownsRow B 5 1 v n (bytesV zs)) (hB : B ≤ w.heap.size) (hk : n + k ≤ 4294967296) (h0 : 0 < n + k) :
    ∃ g' cap' w', (∀ ty, (Builtin.append_ #[41, 3] ty #[v, .int .i64 k]).run Try.prog w = .ok (.slice (some ⟨g', 0, none⟩) (n + k) cap') w') ∧ w'.ownsRow B 5 1 (.slice (some ⟨g', 0, none⟩) (n + k) cap') (n + k) (bytesV (zs ++ zer8 k)) ∧ Fm w w' (fun x => v.ownBlock = some x) (fun x => x = g') := by
  rcases ho.2 with ⟨h1, h2⟩ | ⟨g, cap, cur, h1, _⟩
  · subst h2
    have hz : zs = [] := by
      have := ho.1
      simp [bytesV] at this
      exact this
    subst hz
    subst h1
    obtain ⟨g', c', w', r1, r2, r3, r4⟩ := app0_nil B k w hB (by omega) (by omega)
    refine ⟨g', c', w', fun ty => by rw [Nat.zero_add]; exact r1 ty, by rw [Nat.zero_add, List.nil_append]; exact r2, ⟨r3.os, r3.tape, r3.output, r3.size, fun x hx _ => r3.block x hx, fun x hx => .inr (by omega)⟩⟩
  · subst h1
    obtain ⟨g', c', w', r1, r2, r3⟩ := app0_any .i64 .i64 3 Try.underlying3 B g n cap k zs w ho hB hk
    exact ⟨g', c', w', r1, r2, r3.to (fun x e => by subst e; rfl) (fun x e => .inr e)⟩
theorem step_app0v {w : World} {ops : Array Oper} {o : Oper} {a : Act} {K : Act → World → Prop} {Q : Exit → Act → World → Prop} {E : Prop} (hgd : o.guard = none) (s x : Operand)
    (ho : o.op = .call { callee := .builtin .append, args := #[s, x], argTypes := #[41, 3] })
    (base n k : Nat) (v : Value) (zs : List Int) (hs : a.eval s = v) (hx : a.eval x = .int .i64 (k : Int)) (hown : w.ownsRow base 5 1 v n (bytesV zs))
    (hbase : base ≤ w.heap.size) (hk : n + k ≤ 4294967296) (h0 : 0 < n + k)
    (h : ∀ g' c' w', w'.ownsRow base 5 1 (.slice (some ⟨g', 0, none⟩) (n + k) c') (n + k) (bytesV (zs ++ zer8 k)) → Hid (Fm w w' (fun x => v.ownBlock = some x) (fun x => x = g')) → K (a.put o.dst (.slice (some ⟨g', 0, none⟩) (n + k) c')) w') :
    if Region.wanted o (yielded ops a.tmps) = true then Oper.wp Try.prog o a w K Q else E := by
  have hw : Region.wanted o (yielded ops a.tmps) = true := by simp [Region.wanted, hgd]
  rw [if_pos hw]
  obtain ⟨g', c', w', hr, ho2, f⟩ := app0_v base v n k zs w hown hbase hk h0
  have hK := h g' c' w' ho2 f
  unfold Oper.wp
  simp [execOp, ho, resolve, invoke, builtin, hs, hx, hr, Result.andThen]
  exact hK
theorem step_copyG {P : Program} {ops : Array Oper} {o : Oper} {a : Act} {w : World} {K : Act → World → Prop} {Q : Exit → Act → World → Prop} {E : Prop} (hgd : o.guard = none) (d s : Operand) (dT sT : TypeId)
    (ho : o.op = .call { callee := .builtin .copy, args := #[d, s], argTypes := #[dT, sT] }) (elem : TypeId) (hu : P.underlying dT = some (.slice elem)) (hsz : (P.info? elem).map (·.size) = some 1)
    (g off dLen dCap sLen sCap : Nat) (ad : Addr) (hd : a.eval d = .slice (some ⟨g, off, none⟩) dLen dCap) (hs : a.eval s = .slice (some ad) sLen sCap)
    (cur : List Value) (t : TypeId) (hg : w.heap[g]? = some (.cells cur.toArray t (0, 0))) (cs : List Value) (hn : cs.length = Nat.min sLen dLen)
    (hsrc : ∀ j v, cs[j]? = some v → w.cell? (ad.add j) = some v)
    (hfit : off + cs.length ≤ cur.length) (h1 : ∀ v ∈ cs, v.oneCell' = true)
    (h : ∀ w', Hid (w'.heap[g]? = some (.cells (splice cur off cs).toArray t (0, 0))) → Hid (Fm w w' (fun k => k = g) (fun k => k = g)) → K (a.put o.dst (goInt cs.length)) w') :
    if Region.wanted o (yielded ops a.tmps) = true then Oper.wp P o a w K Q else E := by
  have hw : Region.wanted o (yielded ops a.tmps) = true := by simp [Region.wanted, hgd]
  rw [if_pos hw]
  have hrun := run_copy_row (P := P) w dT sT o.type elem g off dLen dCap ad sLen sCap cur.toArray t cs hu hsz hg hn hsrc (by simpa using hfit) h1
  unfold Oper.wp
  simp [execOp, ho, resolve, invoke, builtin, hd, hs, hrun, Result.andThen]
  exact h _ (show _ = _ by simpa [splice] using setRow_heap w g _ _ t _ hg) ⟨rfl, rfl, rfl, by simp [World.setRow], fun x _ hx => setRow_other w g x _ (fun e => hx e), fun x hx => .inl hx⟩
/-- the blocks of a file -/
def TF (b : Nat) (v : Value) (k : Nat) : Prop := k = b ∨ v.ownBlock = some k
/-- a file's bytes behind a character that was put -/
def fpL (zs : List Int) (wide : Bool) (k : Nat) (c : Int) : List Int := splice (zs ++ zer8 (max zs.length ((k + 1) * wdN wide) - zs.length)) (k * wdN wide) (putL c (wdN wide))
theorem fpL_len (zs : List Int) (wide : Bool) (k : Nat) (c : Int) : (fpL zs wide k c).length = max zs.length ((k + 1) * wdN wide) := by
  unfold fpL
  have hp : (putL c (wdN wide)).length = wdN wide := by cases wide <;> rfl
  rw [length_splice _ _ _ (by rw [List.length_append, zer8_len, hp, Nat.add_mul]; omega), List.length_append, zer8_len]
  omega
theorem fpL_bd (zs : List Int) (wide : Bool) (k : Nat) (c : Int) (h : ∀ z ∈ zs, 0 ≤ z ∧ z ≤ 255) : ∀ z ∈ fpL zs wide k c, 0 ≤ z ∧ z ≤ 255 := by
  intro z hz
  unfold fpL splice at hz
  have ha : ∀ z ∈ zs ++ zer8 (max zs.length ((k + 1) * wdN wide) - zs.length), 0 ≤ z ∧ z ≤ 255 := append_bd _ _ h (fun c hc => by
    unfold zer8 at hc
    rw [List.mem_replicate] at hc
    omega)
  rcases List.mem_append.1 hz with q | q
  · exact ha z (List.mem_of_mem_take q)
  · rcases List.mem_append.1 q with q | q
    · exact putL_bd _ _ z q
    · exact ha z (List.mem_of_mem_drop q)
set_option maxHeartbeats 4000000 in
theorem fput_any {B b : Nat} {w : World} {v : Value} {zs : List Int} (h : FAt B w b v zs) (hB : B ≤ w.heap.size) (wide : Bool) (k : Nat) (hk : k * wdN wide ≤ zs.length) (hk2 : (k + 1) * wdN wide ≤ 4000000) (c : Int) :
    Calls Try.prog 102 #[.pointer (some ⟨b, 0, none⟩), .int .i64 k, .bool wide, .int .u32 c] w fun e w' => e = .returned (.tuple #[]) ∧ ∃ v', FAt B w' b v' (fpL zs wide k c) ∧ Fm w w' (TF b v) (TF b v') := by
  obtain ⟨ao, cp, rfl⟩ := own_slice h.row
  obtain ⟨c0, z0⟩ := h.cell
  have hl := h.few
  have hw1 : 1 ≤ wdN wide := by cases wide <;> decide
  have hw4 : wdN wide ≤ 4 := by cases wide <;> decide
  have hkk : k < 4000000 := by
    have : (k + 1) * 1 ≤ (k + 1) * wdN wide := Nat.mul_le_mul_left _ hw1
    omega
  have HW := hidden (fun w1 => widthOf_any wide w1)
  have HLN : Hid (∀ w1, Dr w w1 → Calls Try.prog 55 #[.pointer (some ⟨b, 0, none⟩), .int .i64 ((k : Int) + 1), .bool wide] w1 fun e w' => e = .returned (.int .i64 ((max zs.length ((k + 1) * wdN wide) : Nat) : Int)) ∧ Dr w w') := hidden (fun w1 hd => (flen_any (h.later hd.below) wide (k + 1) (by omega)).mono (fun e w' hh => ⟨hh.1, hd.trans hh.2⟩))
  have HC : Hid (∀ w1, Dr w w1 → w1.cell? ⟨b, 0, none⟩ = some (.slice ao zs.length cp)) := hidden (by rintro w1 ⟨m, rfl⟩; exact c0)
  have q1 : IntKind.i64.wrap ((k : Int) + 1) = (k : Int) + 1 := by rw [IntKind.wrap_i64]; omega
  obtain ⟨L, hL⟩ : ∃ L, L = max zs.length ((k + 1) * wdN wide) - zs.length := ⟨_, rfl⟩
  have hN : max zs.length ((k + 1) * wdN wide) = zs.length + L := by omega
  have q2 : IntKind.i64.wrap ((zs.length : Int) + (L : Int) - (zs.length : Int)) = ((L : Nat) : Int) := by rw [IntKind.wrap_i64]; omega
  have q4 : IntKind.i64.wrap ((L : Nat) : Int) = ((L : Nat) : Int) := by rw [IntKind.wrap_i64]; omega
  rw [hN] at HLN
  have hpos : 0 < zs.length + L := by
    rw [← hN]
    have : 1 ≤ (k + 1) * wdN wide := by
      have : 1 * 1 ≤ (k + 1) * wdN wide := Nat.mul_le_mul (by omega) hw1
      omega
    omega
  have HOW : Hid (∀ w1, Dr w w1 → w1.ownsRow B 5 1 (.slice ao zs.length cp) zs.length (bytesV zs)) := hidden (fun w1 hd => own_later h.row hd.below)
  have HBB : Hid (∀ w1, Dr w w1 → B ≤ w1.heap.size) := hidden (fun w1 hd => Nat.le_trans hB hd.below.size)
  have HST : Hid (∀ w5 g' c' w7, Dr w w5 → w7.ownsRow B 5 1 (.slice (some ⟨g', 0, none⟩) (zs.length + L) c') (zs.length + L) (bytesV (zs ++ zer8 L)) → Fm w5 w7 (fun x => (Value.slice ao zs.length cp).ownBlock = some x) (fun x => x = g') →
      w7.frozen? ⟨b, 0, none⟩ = false ∧ w7.cell? ⟨b, 0, none⟩ = some (.slice ao zs.length cp) ∧ Hid (FAt B (w7.setCell ⟨b, 0, none⟩ (.slice (some ⟨g', 0, none⟩) (zs.length + L) c')) b (.slice (some ⟨g', 0, none⟩) (zs.length + L) c') (zs ++ zer8 L) ∧ Fm w (w7.setCell ⟨b, 0, none⟩ (.slice (some ⟨g', 0, none⟩) (zs.length + L) c')) (TF b (.slice ao zs.length cp)) (TF b (.slice (some ⟨g', 0, none⟩) (zs.length + L) c')))) := hidden (fun w5 g' c' w7 hd ho f => by
    have h5 := h.later hd.below
    have hne : (Value.slice ao zs.length cp).ownBlock ≠ some b := own_neE h5.row h5.box (by decide)
    have hbx : w7.heap[b]? = some (.cells #[.slice ao zs.length cp] 75 (0, 0)) := by rw [f.block b (Array.getElem?_eq_some_iff.1 h5.box).1 hne]; exact h5.box
    refine ⟨by simp [World.frozen?, hbx], by simp [World.cell?, hbx], hidden ⟨⟨h.base, ?_, ?_, ?_, ?_⟩, ?_⟩⟩
    · rw [bkset hbx]; rfl
    · rw [List.length_append, zer8_len]
      exact ownsRow_setCell_other ho (by simpa using own_neE ho hbx (by decide)) _
    · rw [List.length_append, zer8_len, ← hN]; omega
    · exact append_bd _ _ h.bd (fun z hz => by unfold zer8 at hz; rw [List.mem_replicate] at hz; omega)
    · have f2 : Fm w w7 (TF b (.slice ao zs.length cp)) (TF b (.slice (some ⟨g', 0, none⟩) (zs.length + L) c')) := (Dr.fm hd).trans (f.to (fun x e => .inr e) (fun x e => by
        rcases e with e | e
        · exact .inl (.inl e)
        · exact .inr (by simp only [Value.ownBlock, Option.some.injEq] at e; exact e.symm)))
      exact f2.set b 0 _ (.inl rfl))
  have hNL : zs.length + L ≤ 4000000 := by rw [← hN]; omega
  have HLL := hidden hL
  have e0 : (max zs.length ((k + 1) * wdN wide) - zs.length) = L := hL.symm
  have HK2 := hidden hk
  have HKM : Hid (k * wdN wide + wdN wide ≤ zs.length + L) := hidden (by rw [← hN, ← Nat.succ_mul]; exact Nat.le_max_right _ _)
  have HPL : Hid ((putL c (wdN wide)).length = wdN wide) := hidden (by cases wide <;> rfl)
  have HPB : Hid (∀ zs8 : List Int, zs8.length = zs.length + L → zs8 = zs ++ zer8 L → fpL zs wide k c = splice zs8 (k * wdN wide) (putL c (wdN wide))) := hidden (fun zs8 _ e => by subst e; unfold fpL; rw [e0])
  have HFB := hidden (fpL_bd zs wide k c h.bd)
  have HFLL : Hid ((zs ++ zer8 L).length = zs.length + L) := hidden (by rw [List.length_append, zer8_len])
  have HFL : Hid ((fpL zs wide k c).length = zs.length + L) := hidden (by rw [fpL_len, hN])
  have HPU : Hid (∀ w1, Calls Try.prog 105 #[.int .u32 c, .int .i64 ((wdN wide : Nat) : Int)] w1 _) := hidden (fun w1 => put_any c ((wdN wide : Nat) : Int) w1 (by cases wide; exact .inl rfl; exact .inr (.inr rfl)))
  rw [HPL.out] at HPU
  have q3 : IntKind.i64.wrap ((k : Int) * ((wdN wide : Nat) : Int)) = ((k * wdN wide : Nat) : Int) := by
    rw [IntKind.wrap_i64]
    have : k * wdN wide ≤ 4000000 := by omega
    push_cast at this ⊢
    omega
  have HF : Hid (∀ w8 g' c', FAt B w8 b (.slice (some ⟨g', 0, none⟩) (zs.length + L) c') (zs ++ zer8 L) → w8.cell? ⟨b, 0, none⟩ = some (.slice (some ⟨g', 0, none⟩) (zs.length + L) c') ∧ zs.length + L ≤ c' ∧ c' ≤ 9223372036854775807) := hidden (fun w8 g' c' h8 => by
    refine ⟨h8.cell.1, ?_⟩
    obtain ⟨cur, _, _, h3, h4, _⟩ := own8_cur (by have := h8.row; rw [List.length_append, zer8_len] at this; exact this)
    exact ⟨h3, by simp only [maxLen] at h4; omega⟩)
  clear h hL hN hk hk2 e0 hB
  generalize hM : k * wdN wide = M at *
  clear hM
  generalize wdN wide = W at *
  generalize zs.length = N0 at *
  have HLN1 := hidden (HLN.out w.drew ⟨1, rfl⟩)
  go_enter Try.func102, Try.ntmps102
  go_upto_region 1 with (first | (go_at_call 64; refine (HW.out _).mono ?_; rintro e w5 ⟨rfl, e2⟩; rw [e2]; clear e2) | fail)
  go_cut [] from 11 to 29 (fun wx => ∃ g7 c7, Hid (FAt B wx b (.slice (some ⟨g7, 0, none⟩) (N0 + L) c7) (zs ++ zer8 L) ∧ Fm w wx (TF b (.slice ao N0 cp)) (TF b (.slice (some ⟨g7, 0, none⟩) (N0 + L) c7))))
  case first =>
    go_region_law (first | (refine step_app0v (by rfl) _ _ (by rfl) B N0 L (.slice ao N0 cp) zs (by rfl) (by rfl) (HOW.out _ HD.out) (HBB.out _ HD.out) (by omega) (by omega) ?_; intro g7 c7 w7 ho7 f7; obtain ⟨t1, t2, H8⟩ := HST.out _ _ _ _ HD.out ho7 f7.out; clear ho7 f7) | (go_simp; (with_reducible refine HLN1.out.mono ?_); rintro e w5 ⟨rfl, hd⟩; have j1 := HC.out _ hd; have HD := hidden hd; clear hd) | fail)
    all_goals (try go_wp2_with fail)
    all_goals go_meet
    all_goals exact ⟨g7, c7, H8⟩
  case rest =>
    obtain ⟨g7, c7, H8⟩ := hcut
    obtain ⟨j0, j1, j2⟩ := HF.out _ _ _ H8.out.1
    clear HF HST HOW HBB HLN HLN1 HC
    have HPP : Hid (∀ w1, Below wc.heap.size wc w1 → Calls Try.prog 105 #[.int .u32 c, .int .i64 (W : Int)] w1 fun e w' => ∃ q, e = .returned (.slice (some ⟨q, 0, none⟩) W W) ∧ Hid (Below wc.heap.size wc w' ∧ (∀ j u, (bytesV (putL c W))[j]? = some u → w'.cell? ((⟨q, 0, none⟩ : Addr).add j) = some u))) := hidden (fun w1 hb => (HPU.out w1).mono (by
      rintro e w' ⟨rfl, rfl⟩
      exact ⟨w1.heap.size, rfl, hidden ⟨hb.alloc hb.size _, fun j u hj => new_cell w1 (putL c W) (by rw [HPL.out]; unfold maxLen; omega) j u hj⟩⟩))
    have HCL : Hid (∀ w1, Below wc.heap.size wc w1 → w1.cell? ⟨b, 0, none⟩ = some (.slice (some ⟨g7, 0, none⟩) (N0 + L) c7)) := hidden (fun w1 hb => (H8.out.1.later hb).cell.1)
    have q5 : (0 : Int) ≤ (M : Int) := by omega
    have q6 : (M : Int) ≤ ((N0 + L : Nat) : Int) := by have := HKM.out; omega
    have q7 : (M : Int) ≤ (N0 : Int) + (L : Int) := by have := HKM.out; omega
    have q8 : ¬ c7 = M := by have := HKM.out; omega
    have HCU : Hid (∀ w1, Below wc.heap.size wc w1 → ∃ cur : List Value, w1.heap[g7]? = some (.cells cur.toArray 5 (0, 0)) ∧ Hid (B ≤ g7 ∧ cur.length = c7 ∧ c7 ≤ maxLen ∧ cur.take (N0 + L) = bytesV (zs ++ zer8 L))) := hidden (fun w1 hb => by
      have hr := (H8.out.1.later hb).row
      rw [HFLL.out] at hr
      obtain ⟨cur, h1, h2, h3, h4, h5, h6, h7⟩ := own8_cur hr
      exact ⟨cur, h2, hidden ⟨h1, h5, h4, h6⟩⟩)
    have HFI : Hid (∀ w9 w10 (cur : List Value), Below wc.heap.size wc w9 → (B ≤ g7 ∧ cur.length = c7 ∧ c7 ≤ maxLen ∧ cur.take (N0 + L) = bytesV (zs ++ zer8 L)) → w10.heap[g7]? = some (.cells (splice cur M (bytesV (putL c W))).toArray 5 (0, 0)) → Fm w9 w10 (fun k => k = g7) (fun k => k = g7) →
        w10.cell? ⟨b, 0, none⟩ = some (.slice (some ⟨g7, 0, none⟩) (N0 + L) c7) ∧ Hid (∃ v', FAt B w10 b v' (fpL zs wide k c) ∧ Fm w w10 (TF b (.slice ao N0 cp)) (TF b v'))) := hidden (fun w9 w10 cur hb h9 hg f => by
      have h8 := H8.out.1.later hb
      obtain ⟨k1, k2, k3, k4⟩ := h9
      have hne : b ≠ g7 := fun e => own_neE h8.row h8.box (by decide) (by rw [e]; rfl)
      have hbx : w10.heap[b]? = some (.cells #[.slice (some ⟨g7, 0, none⟩) (N0 + L) c7] 75 (0, 0)) := by rw [f.block b (Array.getElem?_eq_some_iff.1 h8.box).1 hne]; exact h8.box
      have hpl : (bytesV (putL c W)).length = W := by rw [show (bytesV (putL c W)).length = (putL c W).length by simp [bytesV]]; exact HPL.out
      have hkm := HKM.out
      refine ⟨by simp [World.cell?, hbx], hidden ⟨_, ⟨H8.out.1.base, hbx, ?_, ?_, HFB.out⟩, ?_⟩⟩
      · rw [HFL.out]
        refine own8_of k1 hg j1 k3 (by rw [length_splice _ _ _ (by omega)]; exact k2) ?_ HFL.out
        rw [HPB.out _ HFLL.out rfl, bytesV_splice, ← k4]
        simp only [splice]
        rw [List.take_append, List.take_append, List.take_take, List.take_take, List.drop_take]
        simp only [List.length_take, hpl, k2]
        rw [show min (N0 + L) M = M by omega, show min M (N0 + L) = M by omega, List.take_of_length_le (l := bytesV (putL c W)) (by rw [hpl]; omega)]
        congr 3
        omega
      · rw [HFL.out]; exact hNL
      · refine H8.out.2.trans ((Fm.same (hb.mono ?_)).trans (f.to (fun x e => .inr (by subst e; rfl)) (fun x e => .inl e)))
        exact Nat.le_refl _)
    clear HPU
    go_upto_region 2 with fail
    go_region_held3 (fun w' => w'.cell? ⟨b, 0, none⟩ = some (.slice (some ⟨g7, 0, none⟩) (N0 + L) c7)) (first | assumption | go_keep) (first | (go_at_call 105; refine (HPP.out _ ((Below.refl _ _).drew)).mono ?_; rintro e w9 ⟨q, rfl, H9⟩; have i1 := HCL.out _ H9.out.1) | (obtain ⟨cur, k1, K2⟩ := HCU.out _ H9.out.1; refine step_copyG (by rfl) (.tmp 37) (.tmp 40) 41 41 (by rfl) 5 Try.underlying41 info8s g7 M (N0 + L - M) (c7 - M) W W ⟨q, 0, none⟩ (by rfl) (by rfl) cur 5 k1 (bytesV (putL c W)) (by have h1 := HPL.out; have h2 := HKM.out; rw [show (bytesV (putL c W)).length = (putL c W).length by simp [bytesV], h1]; show W = min W (N0 + L - M); omega) H9.out.2 (by have h1 := HPL.out; have h2 := HKM.out; have h3 := K2.out.2.1; rw [show (bytesV (putL c W)).length = (putL c W).length by simp [bytesV], h1, h3]; omega) (bytesV_one _) ?_; intro w10 hg10 f10; obtain ⟨i2, HR⟩ := HFI.out _ _ _ H9.out.1 K2.out hg10.out f10.out; clear hg10 f10) | fail)
    all_goals (try go_wp2)
    all_goals refine bodyPost_end (v := .tuple #[]) (by simp [results, Try.results102, go_sem]) rfl ⟨rfl, HR.out⟩
end Go.Proofs.Ytmohnopegacahaa
