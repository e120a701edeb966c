/- Layer 14, the program: a window's number, and those of all below it. -/
import Derived.Test.YtilfgbcbodjegaaP14o
namespace Go.Proofs.Ytilfgbcbodjegaa
open Go.RowKit
set_option maxHeartbeats 1000000
set_option maxRecDepth 100000
set_option linter.unusedVariables false

def intsV (zs : List Int) : List Value := zs.map (Value.int .i64)
theorem intsV_app (a b : List Int) : intsV (a ++ b) = intsV a ++ intsV b := by simp [intsV]
theorem intsV_one (zs : List Int) : ∀ u ∈ intsV zs, u.oneCell' = true := by
  intro u hu
  obtain ⟨z, _, rfl⟩ := List.mem_map.1 hu
  rfl
theorem info_int : (Try.prog.info? 3).map (fun i => (i.zero, i.size, i.bytes)) = some (some (.int .i64 0), 1, 8) := by kernel_rfl
theorem int_parts : ∃ i, Try.prog.info? 3 = some i ∧ i.zero = some (.int .i64 0) ∧ i.size = 1 ∧ i.bytes = 8 := by
  have h := info_int
  cases hq : Try.prog.info? 3 with
  | none => rw [hq] at h; simp at h
  | some i => rw [hq] at h; simp at h; exact ⟨i, rfl, h.1, h.2.1, h.2.2⟩
/-- one number more -/
theorem wpList_snocI {w0 w : World} {ops : Array Oper} {rest : List Oper} {o : Oper} {a : Act} {Q : Exit → Act → World → Prop} (hgd : o.guard = none) (s x : Operand)
    (ho : o.op = .call { callee := .builtin .append, args := #[s, x], argTypes := #[33, 33] })
    (v : Value) (n : Nat) (zs : List Int) (z : Int) (ad : Addr) (hs : a.eval s = v) (hx : a.eval x = .slice (some ad) 1 1) (hown : w.ownsRow w0.heap.size 3 1 v n (intsV zs)) (hc : w.cell? (ad.add 0) = some (.int .i64 z)) (h63 : n ≤ 100000) (hb : Below w0.heap.size w0 w)
    (h : ∀ a' c' w', Hid (w'.ownsRow w0.heap.size 3 1 (.slice a' (n + 1) c') (n + 1) (intsV (zs ++ [z]))) → Hid (Below w0.heap.size w0 w') → wpList Try.prog ops Q rest (a.put o.dst (.slice a' (n + 1) c')) w') : wpList Try.prog ops Q (o :: rest) a w := by
  obtain ⟨i0, hi, hz0, hz1, hz2⟩ := int_parts
  refine wpList_append_at hgd s x 33 ho w0.heap.size 3 i0 (.int .i64 0) 1 8 Try.underlying33 hi hz0 hz1 hz2 rfl (by decide) v n (intsV zs) hs hown ad 1 1 (intsV [z]) hx (by simp [intsV]) (fun j u hj => ?_) (intsV_one _) (by unfold maxLen; omega) (by omega) hb.size (by omega) ?_
  · have : j = 0 := by
      have := (List.getElem?_eq_some_iff.1 hj).1
      simp [intsV] at this
      omega
    subst this
    simp [intsV] at hj
    rw [hc, ← hj]
  · intro v' w' h1 h2 h3
    rw [← intsV_app] at h1
    obtain ⟨a', c', rfl⟩ := own_slice h1
    exact h a' c' w' h1 (hb.trans ((fm_grown h2 h3.out).below hb.size (fun k e => (hown.lt k e).1)))
/-- the numbers of those that are told -/
def numsF (p : Int → Bool) (L : List Wd) : List Int := (L.filter (fun d => p d.n)).map (·.n)
theorem numsF_snoc (p : Int → Bool) (L : List Wd) (j : Nat) (hj : j < L.length) : numsF p (L.take (j + 1)) = if p L[j].n = true then numsF p (L.take j) ++ [L[j].n] else numsF p (L.take j) := by
  have e : L.take (j + 1) = L.take j ++ [L[j]] := by rw [List.take_add_one, List.getElem?_eq_getElem hj]; rfl
  unfold numsF
  rw [e, List.filter_append, List.map_append]
  by_cases h : p L[j].n = true
  · rw [if_pos h]; simp [h]
  · rw [if_neg h]; simp [h]
theorem cell_box (w : World) (d : Wd) : (w.alloc (.cells #[.int .i64 d.n, .int .i64 d.k, .int .i64 d.p, .int .i64 d.a, .int .i64 d.b, .int .i64 d.m, .int .u32 d.s, .int .i64 d.key] 79)).cell? ⟨w.heap.size, 0, none⟩ = some (.int .i64 d.n) := by
  have hh := heap_alloc_new w (.cells #[.int .i64 d.n, .int .i64 d.k, .int .i64 d.p, .int .i64 d.a, .int .i64 d.b, .int .i64 d.m, .int .u32 d.s, .int .i64 d.key] 79)
  unfold World.cell?
  simp only
  rw [hh]
  rfl
set_option maxHeartbeats 8000000 in
theorem withAll_any {B m : Nat} {v : Value} {s : Ps} {w : World} (h : PAt B w m v s) (ho : OkP s) (h0 : 0 < s.L.length) (x : Int) (k : Nat) (he : ∀ d ∈ s.L, Ends s.L k d.p) :
    Calls Try.prog 42 #[.pointer (some ⟨m, 0, none⟩), .int .i64 x] w fun e w' => ∃ ao n c, e = .returned (.slice ao n c) ∧ Hid (w'.ownsRow w.heap.size 3 1 (.slice ao n c) n (intsV (numsF (fun y => upB s.L (k + 2) y x) s.L))) ∧ n ≤ 200 ∧ Hid (Below w.heap.size w w') := by
  obtain ⟨g, c, hv, _, _, hlc, hcm⟩ := wrow_pos h.row h0
  obtain ⟨d0, d1, d2, d3, d4, d5⟩ := h.cells
  rw [hv] at d4
  have HC : Hid (∀ w1, Below w.heap.size w w1 → ∀ j (hj : j < s.L.length), w1.cell? ⟨g, j * 8, none⟩ = some (.int .i64 s.L[j].n) ∧ w1.cell? ⟨g, j * 8 + 1, none⟩ = some (.int .i64 s.L[j].k) ∧ w1.cell? ⟨g, j * 8 + 2, none⟩ = some (.int .i64 s.L[j].p) ∧ w1.cell? ⟨g, j * 8 + 3, none⟩ = some (.int .i64 s.L[j].a) ∧ w1.cell? ⟨g, j * 8 + 4, none⟩ = some (.int .i64 s.L[j].b) ∧ w1.cell? ⟨g, j * 8 + 5, none⟩ = some (.int .i64 s.L[j].m) ∧ w1.cell? ⟨g, j * 8 + 6, none⟩ = some (.int .u32 s.L[j].s) ∧ w1.cell? ⟨g, j * 8 + 7, none⟩ = some (.int .i64 s.L[j].key)) := hidden (fun w1 hb j hj => by
    have q := (h.later hb).row
    rw [hv] at q
    exact wrow_cells q j hj)
  have HIB : Hid (∀ j (hj : j < s.L.length) w1, Below w.heap.size w w1 → Calls Try.prog 64 #[.pointer (some ⟨m, 0, none⟩), .int .i64 s.L[j].n, .int .i64 x] w1 fun e w' => e = .returned (.bool (upB s.L (k + 1) s.L[j].p x)) ∧ Hid (Below w1.heap.size w1 w')) := hidden (fun j hj w1 hb => by
    have e := ofW_at ho.so hj rfl
    have := isBelow_any (h.later hb) ho s.L[j].n x k (by rw [e]; exact he _ (List.getElem_mem hj))
    rw [e] at this
    exact this.mono (fun e w' hh => ⟨hh.1, hidden hh.2⟩))
  have HPR : Hid (∀ j (hj : j < s.L.length), upB s.L (k + 2) s.L[j].n x = if s.L[j].n = x then true else upB s.L (k + 1) s.L[j].p x) := hidden (fun j hj => by
    have e := ofW_at ho.so hj rfl
    have hp := ho.pos s.L[j] (List.getElem_mem hj)
    conv => lhs; unfold upB
    rw [if_neg (by omega), e])
  have hfew := ho.few
  obtain ⟨N, hN⟩ : ∃ N, s.L.length = N := ⟨_, rfl⟩
  have HN := hidden hN
  rw [hN] at d4 hfew hlc h0
  generalize hp2 : (fun y => upB s.L (k + 2) y x) = PR at *
  have HPR2 : Hid (∀ y, PR y = upB s.L (k + 2) y x) := hidden (fun y => by rw [← hp2])
  clear h he hv hN hp2 d0 d1 d2 d3 d5 ho
  go_enter Try.func42, Try.ntmps42
  go_upto_region 3 with fail
  go_loopw [5, 13] (fun v i w' => ∃ (j n : Nat), j ≤ N ∧ n ≤ j ∧ i = .int .i64 j ∧ Hid (w'.ownsRow w.heap.size 3 1 v n (intsV (numsF PR (s.L.take j)))) ∧ Hid (Below w.heap.size w w')) (fun _ i _ => N - (intOf i).toNat)
  case atStart => exact ⟨0, 0, by omega, by omega, rfl, hidden ⟨by simp [numsF, intsV], .inl ⟨rfl, rfl⟩⟩, hidden (Below.refl _ _)⟩
  case round =>
    obtain ⟨j, n, hj, hnj, rfl, HO, HB⟩ := hrel
    by_cases hlt : j < N
    · have hjl : j < s.L.length := by rw [HN.out]; exact hlt
      have l1 : (j : Int) < N := by omega
      have l2 : (0 : Int) ≤ j := by omega
      obtain ⟨c0, c1, c2, c3, c4, c5, c6, c7⟩ := HC.out _ HB.out j hjl
      have HSN := hidden (numsF_snoc PR s.L j hjl)
      have HPj := hidden (HPR.out j hjl)
      have HIj : Hid (∀ w1, _) := hidden (HIB.out j hjl)
      obtain ⟨d, HDD⟩ : ∃ d, Hid (s.L[j] = d) := ⟨_, hidden rfl⟩
      rw [HDD.out] at c0 c1 c2 c3 c4 c5 c6 c7 HSN HPj HIj
      rw [HPR2.out, HPj.out] at HSN
      have hcb := cell_box wr d
      have HBb := hidden (HB.out.alloc HB.out.size (.cells #[.int .i64 d.n, .int .i64 d.k, .int .i64 d.p, .int .i64 d.a, .int .i64 d.b, .int .i64 d.m, .int .u32 d.s, .int .i64 d.key] 79))
      have HOb := hidden (HO.out.alloc (.cells #[.int .i64 d.n, .int .i64 d.k, .int .i64 d.p, .int .i64 d.a, .int .i64 d.b, .int .i64 d.m, .int .u32 d.s, .int .i64 d.key] 79))
      have hszb : wr.heap.size < (wr.alloc (.cells #[.int .i64 d.n, .int .i64 d.k, .int .i64 d.p, .int .i64 d.a, .int .i64 d.b, .int .i64 d.m, .int .u32 d.s, .int .i64 d.key] 79)).heap.size := by simp
      go_upto_region 5 with fail
      generalize wr.alloc (.cells #[.int .i64 d.n, .int .i64 d.k, .int .i64 d.p, .int .i64 d.a, .int .i64 d.b, .int .i64 d.m, .int .u32 d.s, .int .i64 d.key] 79) = W at *
      generalize wr.heap.size = G at *
      clear c0 c1 c2 c3 c4 c5 c6 c7 HO HB HPj HDD
      have HCW : Hid (∀ w2, Below W.heap.size W w2 → w2.cell? ⟨G, 0, none⟩ = some (.int .i64 d.n)) := hidden (fun w2 hb2 => by rw [World.cell?_of_block (hb2.block G hszb)]; exact hcb)
      have HAP : Hid (∀ w2, Below W.heap.size W w2 → (w2.alloc (.cells #[.int .i64 d.n] 3)).ownsRow w.heap.size 3 1 u5 n (intsV (numsF PR (s.L.take j))) ∧ (w2.alloc (.cells #[.int .i64 d.n] 3)).cell? ((⟨w2.heap.size, 0, none⟩ : Addr).add 0) = some (.int .i64 d.n) ∧ Below w.heap.size w (w2.alloc (.cells #[.int .i64 d.n] 3))) := hidden (fun w2 hb2 => by
        have hbw := HBb.out.trans (hb2.mono HBb.out.size)
        refine ⟨(own_later HOb.out hb2).alloc _, ?_, hbw.alloc hbw.size _⟩
        rw [Addr.add_lit]
        have hh := heap_alloc_new w2 (.cells #[.int .i64 d.n] 3)
        unfold World.cell?
        simp only
        rw [hh]
        rfl)
      by_cases hx : d.n = x
      · have q1 : (d.n == x) = true := by simp [hx]
        rw [if_pos hx, if_pos rfl] at HSN
        obtain ⟨a1, a2, a3⟩ := HAP.out W (Below.refl _ _)
        have HA1 := hidden a1
        have HA2 := hidden a2
        have HA3 := hidden a3
        clear hx a1 a2 a3 HIj HIB HPR HAP HOb HBb HC
        go_wp2_with (first | (at_builtin; refine wpList_snocI (w0 := w) rfl (.tmp 28) (.tmp 31) rfl _ n (numsF PR (s.L.take j)) d.n ⟨W.heap.size, 0, none⟩ rfl rfl HA1.out HA2.out (by omega) HA3.out ?_; intro a4 c4 w4 HO4 HB4) | fail)
        rw [← HSN.out] at HO4
        go_roundw
        case rel => exact ⟨j + 1, n + 1, by omega, by omega, by first | rfl | go_num, HO4, HB4⟩
        case measure => simp [intOf]; omega
      · have q1 : (d.n == x) = false := by simp [hx]
        rw [if_neg hx] at HSN
        have HIW := hidden (HIj.out W HBb.out)
        obtain ⟨BL, hBL⟩ : ∃ BL, upB s.L (k + 1) d.p x = BL := ⟨_, rfl⟩
        rw [hBL] at HIW HSN
        clear hx hBL HIj HIB HPR HC
        cases BL with
        | true =>
          rw [if_pos rfl] at HSN
          go_wp2_with (first | (go_at_call 64; refine HIW.out.mono ?_; rintro e w2 ⟨rfl, HB2⟩; have hc2 := HCW.out _ HB2.out; obtain ⟨a1, a2, a3⟩ := HAP.out _ HB2.out; have HA1 := hidden a1; have HA2 := hidden a2; have HA3 := hidden a3; clear a1 a2 a3) | (at_builtin; refine wpList_snocI (w0 := w) rfl (.tmp 28) (.tmp 31) rfl _ n (numsF PR (s.L.take j)) d.n ⟨w2.heap.size, 0, none⟩ rfl rfl HA1.out HA2.out (by omega) HA3.out ?_; intro a4 c4 w4 HO4 HB4) | fail)
          rw [← HSN.out] at HO4
          go_roundw
          case rel => exact ⟨j + 1, n + 1, by omega, by omega, by first | rfl | go_num, HO4, HB4⟩
          case measure => simp [intOf]; omega
        | false =>
          rw [if_neg (by simp)] at HSN
          have HOL : Hid (∀ w2, Below W.heap.size W w2 → w2.ownsRow w.heap.size 3 1 u5 n (intsV (numsF PR (s.L.take (j + 1))))) := hidden (fun w2 hb2 => by rw [HSN.out]; exact own_later HOb.out hb2)
          go_wp2_with (first | (go_at_call 64; refine HIW.out.mono ?_; rintro e w2 ⟨rfl, HB2⟩; have HO4 := hidden (HOL.out _ HB2.out); have HB4 := hidden (HBb.out.trans (HB2.out.mono HBb.out.size))) | fail)
          go_roundw
          case rel => exact ⟨j + 1, n, by omega, by omega, by first | rfl | go_num, HO4, HB4⟩
          case measure => simp [intOf]; omega
    · obtain rfl : j = N := by omega
      have l1 : ¬ ((j : Int) < j) := by omega
      have HTK : Hid (s.L.take j = s.L) := hidden (List.take_of_length_le (by rw [HN.out]; exact Nat.le_refl _))
      rw [HTK.out] at HO
      obtain ⟨ao, cc, e⟩ := own_slice HO.out
      subst e
      clear HC HIB HPR
      go_wp2
      go_ret
      exact ⟨ao, n, cc, rfl, HO, by omega, HB⟩
end Go.Proofs.Ytilfgbcbodjegaa
