/- Package stack's SetLocal. Package stack's Args: lists; eachLocal over its closure; the closure. Package stack's Args. Package stack's Copy; lists of Throw. Package stack's Throw. A region that draws its order within a round of a range over a function: where no operation defers, it is as anywhere. Package stack's Throw, where the token may be one. -/
import Derived.Test.YthhkennomnmjkaaV10a
import Derived.Test.YthhkennomnmjkaaS10p
import Derived.Test.YthhkennomnmjkaaM10B
import Derived.Test.YthhkennomnmjkaaT10k
import Derived.Test.YthhkennomnmjkaaV10e
import Derived.Test.YthhkennomnmjkaaV10b
import Derived.Sort.QuietIn
import Derived.Shelf.RegionOpen
import Derived.Deep.RegionHeld3
namespace Go.Proofs.Ythhkennomnmjkaa
open Go.RowKit
set_option maxHeartbeats 1000000
set_option maxRecDepth 100000
set_option linter.unusedVariables false

/-- what SetLocal leaves -/
def setS (s : Ks) (x : Nat) (n : Int) (y : Nat) : Ks := if locE s x n = 0 then { s with bs := splice s.bs (posK s + x) (putL y n) } else s
theorem loc_good {s : Ks} {x : Nat} {n : Int} (he : locE s x n = 0) : (n = 1 ∨ n = 2 ∨ n = 4) ∧ s.on = true ∧ (x : Int) + n ≤ (lszK s : Int) := by
  have hn : n = 1 ∨ n = 2 ∨ n = 4 := Classical.byContradiction fun k => by
    unfold locE at he
    rw [if_pos k] at he
    cases he
  have hon : s.on = true := by
    cases ho : s.on with
    | true => rfl
    | false =>
      unfold locE at he
      rw [if_neg (fun k => k hn), if_pos ho] at he
      cases he
  refine ⟨hn, hon, Classical.byContradiction fun k => ?_⟩
  unfold locE at he
  rw [if_neg (fun k => k hn), if_neg (by rw [hon]; simp), if_pos (by omega)] at he
  cases he
theorem okb_splice {zs ds : List Int} (h : OkB zs) (hd : OkB ds) (p : Nat) : OkB (splice zs p ds) := by
  unfold splice
  intro c hc
  simp only [List.mem_append] at hc
  rcases hc with hc | hc | hc
  all_goals first | exact hd c hc | exact h c (List.mem_of_mem_take hc) | exact h c (List.mem_of_mem_drop hc)
theorem ok_set {s : Ks} (ok : OkK s) (x : Nat) (n : Int) (y : Nat) : OkK (setS s x n y) := by
  unfold setS
  split
  · rename_i he
    obtain ⟨hn, hon, hov⟩ := loc_good he
    have hbd := ok.bd hon
    have hlo := ok.loc hon
    have hle := lszK_eq s
    have hpl := putL_len (y : Int) n hn
    refine ok_locals ok hon ?_ ?_ (okb_splice ok.okb (putL_bd _ _) _)
    · unfold splice
      rw [List.take_append_of_le_length (by simp; omega), List.take_take, Nat.min_eq_left (by omega)]
    · rw [length_splice _ _ _ (by omega)]
  · exact ok
theorem Below.drewN' {k : Nat} {w w1 : World} (h : Below k w w1) (q : Nat) : Below k w (w1.drewN q) := h.trans ⟨rfl, rfl, rfl, Nat.le_refl _, fun _ _ => rfl⟩
theorem kSetLocal_any (B m x y : Nat) (n : Int) (v : Value) (s : Ks) (w : World) (h : KAt B w m v s) (ok : OkK s) (hx : x < 4294967296) :
    Calls Try.prog 42 #[.pointer (some ⟨m, 0, none⟩), .int .u32 x, .int .i64 n, .int .u32 y] w fun e w' => e = .returned (.int .i64 (locE s x n)) ∧ LeftK B w w' m v (setS s x n y) := by
  obtain ⟨a, c, rfl⟩ := own_slice8 h.row
  have kc := h.kc
  have hsz := ok.sz
  have hmo := ok.most
  have HL := hidden (klacksL_any m a c s x n w kc ok (fun hon => KC.isSome (w := w) (m := m) h (by have := ok.bd hon; omega)) hx)
  unfold setS
  by_cases he : locE s x n = 0
  · rw [if_pos he, he]
    rw [he] at HL
    obtain ⟨hn, hon, hov⟩ := loc_good he
    have hbd := ok.bd hon
    have hlo := ok.loc hon
    have hle := lszK_eq s
    obtain ⟨g, rfl⟩ := KC.isSome (w := w) (m := m) h (by omega)
    have hcc : s.bs.length ≤ c := kc.rd.2.1
    have hpl := putL_len (y : Int) n hn
    obtain ⟨N, hN⟩ : ∃ N : Nat, n = N := ⟨n.toNat, by omega⟩
    have HK : Hid (∀ w1, Below w.heap.size w w1 → Calls Try.prog 61 #[.pointer (some ⟨m, 0, none⟩)] w1 fun e w' => e = .returned (.slice (some ⟨g, posK s, none⟩) (lszK s) (c - posK s)) ∧ ∃ q : Nat, w' = w1.drewN q) := fun w1 hb => by
      refine (klocals_any m g c s w1 (kc.later hb) ok hon).mono ?_
      rintro e w' ⟨⟨p, rfl, hp⟩, hd2⟩
      rw [hp (by omega)]
      exact ⟨rfl, hd2⟩
    have HP : Hid (∀ w1, Calls Try.prog 64 #[.int .u32 y, .int .i64 n] w1 fun e w' => e = .returned (.slice (some ⟨w1.heap.size, 0, none⟩) N N) ∧ w' = w1.alloc (.cells (bytesV (putL y n)).toArray 5)) := fun w1 => by
      have := put_any (y : Int) n w1 hn
      rw [show (putL (y : Int) n).length = N by omega] at this
      exact this
    have HE : Hid (∀ w4 w5, Below w.heap.size w w4 → w5.ownsRow B 5 1 (.slice (some ⟨g, 0, none⟩) s.bs.length c) s.bs.length (bytesV (splice s.bs (posK s + x) (putL y n))) → Fm w4 w5 (fun j => (Value.slice (some ⟨g, 0, none⟩) s.bs.length c).ownBlock = some j) (fun j => (Value.slice (some ⟨g, 0, none⟩) s.bs.length c).ownBlock = some j) → LeftK B w w5 m (.slice (some ⟨g, 0, none⟩) s.bs.length c) { s with bs := splice s.bs (posK s + x) (putL y n) }) := fun w4 w5 hb ho f => by
      obtain ⟨g1, g2⟩ := h.inplace ((Fm.same hb).trans f) (by rw [length_splice _ _ _ (by omega)]) ho
      exact ⟨_, g1, g2⟩
    have HO : Hid (∀ w4, Below w.heap.size w w4 → w4.ownsRow B 5 1 (.slice (some ⟨g, 0, none⟩) s.bs.length c) s.bs.length (bytesV s.bs)) := fun w4 hb => (h.later hb).row
    have hDl : (putL (y : Int) n).length = N := by omega
    have hN4 : N ≤ 4 ∧ 1 ≤ N := by omega
    have hwx : IntKind.i64.wrap (x : Int) = (x : Int) := by rw [IntKind.wrap_i64]; omega
    clear h kc ok hon he hn hpl
    subst hN
    generalize putL (y : Int) (N : Int) = D at *
    have HNC : Hid (∀ w1 : World, ∀ j u, (bytesV D)[j]? = some u → (w1.alloc (.cells (bytesV D).toArray 5)).cell? ((⟨w1.heap.size, 0, none⟩ : Addr).add j) = some u) := fun w1 j u hj => new_cell w1 D (by unfold maxLen; omega) j u hj
    generalize lszK s = Z at *
    generalize posK s = P at *
    have z1 : x ≤ Z := by omega
    have z2 : ¬ c - P = x := by omega
    have z3 : x ≤ c - P := by omega
    have HMN : Hid (D.length = Nat.min N (Z - x)) := by show _ = min N (Z - x); omega
    have HFI : Hid (P + x + D.length ≤ s.bs.length) := by show _ ≤ _; omega
    clear hlo hle hbd hov hcc
    go_enter Try.func42, Try.ntmps42
    go_wp2_with (first | (go_at_call 69; refine HL.out.mono ?_; rintro e w1 ⟨rfl, hd1⟩; have HB1 := hidden hd1.below; clear hd1))
    go_region_law (first | (go_simp; (with_reducible refine (HK.out _ (by first | exact HB1.out.drew | exact (HB1.out.drew).alloc HB1.out.size _)).mono ?_); rintro e w2 ⟨rfl, q, rfl⟩) | (go_simp; (with_reducible refine (HP.out _).mono ?_); rintro e w3 ⟨rfl, rfl⟩) | (refine step_copy8 (by rfl) (.tmp 20) (.tmp 23) (by rfl) B g s.bs.length c _ (HO.out _ (by first | exact ((Below.drewN' HB1.out _)).alloc HB1.out.size _ | exact Below.drewN' ((HB1.out.drew).alloc HB1.out.size _) _)) (some ⟨g, P + x, none⟩) (P + x) (Z - x) (c - P - x) (some ⟨w1.heap.size, 0, none⟩) N N (by rfl) (by rfl) D HMN.out (fun _ => ⟨rfl, _, rfl, HNC.out _⟩) HFI.out ?_; intro w6 ho6 f6) | fail)
    have HX := hidden (HE.out _ _ ((Below.drewN' HB1.out (1 + q)).alloc HB1.out.size _) ho6 f6.out)
    clear ho6 f6
    go_wp2
    go_ret
    exact ⟨rfl, HX.out⟩
  · rw [if_neg he]
    have HK := hidden h
    clear h kc ok
    generalize locE s x n = E at *
    have q : ((E : Int) != 0) = true := by simp; omega
    have q2 : ¬ (E : Int) = 0 := by omega
    go_enter Try.func42, Try.ntmps42
    go_wp2_with (first | (go_at_call 69; refine HL.out.mono ?_; rintro e w1 ⟨rfl, hd1⟩))
    go_ret
    exact ⟨rfl, LeftK.dr HK.out hd1⟩
end Go.Proofs.Ythhkennomnmjkaa
namespace Go.Proofs.Ythhkennomnmjkaa
open Go.RowKit
set_option maxHeartbeats 1000000
set_option maxRecDepth 100000
set_option linter.unusedVariables false

/-- numbers laid into locals, one behind the other, as long as there are both -/
def putA (P : Nat) : List (Nat × Nat) → List Nat → List Int → List Int
  | (a, n) :: sl, x :: xs, zs => putA P sl xs (splice zs (P + a) (putL (x : Int) (n : Int)))
  | _, _, zs => zs
theorem putA_snoc (P : Nat) : ∀ (pre : List (Nat × Nat)) (xs : List Nat) (zs : List Int) (p q : Nat), pre.length < xs.length → putA P (pre ++ [(p, q)]) xs zs = splice (putA P pre xs zs) (P + p) (putL ((xs.getD pre.length 0 : Nat) : Int) (q : Int))
  | [], [], zs, p, q, h => by simp at h
  | [], x :: xs, zs, p, q, h => by simp [putA]
  | (a, n) :: pre, [], zs, p, q, h => by simp at h
  | (a, n) :: pre, x :: xs, zs, p, q, h => by
    rw [List.cons_append, putA, putA, putA_snoc P pre xs _ p q (by simpa using h)]
    simp [List.getD_eq_getElem?_getD]
theorem putA_stop (P : Nat) : ∀ (pre rest : List (Nat × Nat)) (xs : List Nat) (zs : List Int), xs.length ≤ pre.length → putA P (pre ++ rest) xs zs = putA P pre xs zs
  | [], rest, [], zs, h => by cases rest <;> simp [putA]
  | [], rest, x :: xs, zs, h => by simp at h
  | (a, n) :: pre, rest, [], zs, h => by simp [putA]
  | (a, n) :: pre, rest, x :: xs, zs, h => by
    rw [List.cons_append, putA, putA, putA_stop P pre rest xs _ (by simpa using h)]
theorem putA_keep (P : Nat) : ∀ (sl : List (Nat × Nat)) (xs : List Nat) (zs : List Int), (∀ p ∈ sl, (p.2 = 1 ∨ p.2 = 2 ∨ p.2 = 4) ∧ P + p.1 + p.2 ≤ zs.length) → OkB zs → (putA P sl xs zs).length = zs.length ∧ (putA P sl xs zs).take P = zs.take P ∧ OkB (putA P sl xs zs)
  | [], xs, zs, h, hb => by cases xs <;> simp [putA] <;> exact hb
  | (a, n) :: sl, [], zs, h, hb => by simp [putA]; exact hb
  | (a, n) :: sl, x :: xs, zs, h, hb => by
    rw [putA]
    obtain ⟨h1, h2⟩ := h (a, n) (by simp)
    simp only at h1 h2
    have hn : (n : Int) = 1 ∨ (n : Int) = 2 ∨ (n : Int) = 4 := by omega
    have hpl := putL_len (x : Int) (n : Int) hn
    have hl : (splice zs (P + a) (putL (x : Int) (n : Int))).length = zs.length := length_splice _ _ _ (by omega)
    obtain ⟨k1, k2, k3⟩ := putA_keep P sl xs (splice zs (P + a) (putL (x : Int) (n : Int))) (fun p hp => by rw [hl]; exact h p (by simp [hp])) (okb_splice hb (putL_bd _ _) _)
    refine ⟨by rw [k1, hl], ?_, k3⟩
    rw [k2]
    unfold splice
    rw [List.take_append_of_le_length (by simp; omega), List.take_take, Nat.min_eq_left (by omega)]
/-- what Args leaves -/
def argsS (s : Ks) (xs : List Nat) : Ks := if lackE s 0 = 0 then { s with bs := putA (posK s) (slL (frF s.bs s.fr) 0) xs s.bs } else s
theorem args_fit {s : Ks} (ok : OkK s) (hon : s.on = true) : ∀ p ∈ slL (frF s.bs s.fr) 0, (p.2 = 1 ∨ p.2 = 2 ∨ p.2 = 4) ∧ p.1 + p.2 ≤ lszK s ∧ posK s + p.1 + p.2 ≤ s.bs.length := fun p hp => by
  have hfr := (ok.cur hon).fr
  have h1 := slL_in _ 0 (frF_pairs ok.okb hfr.ne) p hp
  have h2 := szF_mod (frF s.bs s.fr)
  have h3 := ok.loc hon
  have h4 := ok.bd hon
  refine ⟨h1.2.1, ?_, ?_⟩ <;> omega
theorem ok_args {s : Ks} (ok : OkK s) (xs : List Nat) : OkK (argsS s xs) := by
  unfold argsS
  split
  · rename_i h
    obtain ⟨hon, _⟩ := lack_zero h
    obtain ⟨k1, k2, k3⟩ := putA_keep (posK s) (slL (frF s.bs s.fr) 0) xs s.bs (fun p hp => ⟨(args_fit ok hon p hp).1, (args_fit ok hon p hp).2.2⟩) ok.okb
    exact ok_locals ok hon k2.symm k1.symm k3
  · exact ok
theorem each_args (J Jx : List (Nat × Nat) → World → Prop) (cv cx : Value) (a : Option Addr) (n c : Nat) (zs : List Int) (w : World) (hn : n ≤ 2000000) (hp : isPairs zs) (hl : zs.length = n) (hb : OkB zs)
    (hJ : ∀ pre wx, J pre wx → Reads wx a n c zs) (h0 : J [] w)
    (hS : ∀ pre p q wx, J pre wx → (q = 1 ∨ q = 2 ∨ q = 4) → p + q ≤ 893 * n + 3600 → (pre ++ [(p, q)]) <+: slL zs 0 → Calls Try.prog 63 #[.int .i64 (p : Nat), .int .i64 (q : Nat), cv, cx] wx fun e w' => (e = .returned (.bool true) ∧ J (pre ++ [(p, q)]) w') ∨ (e = .returned (.bool false) ∧ Jx (pre ++ [(p, q)]) w')) :
    Calls Try.prog 62 #[.slice a n c, .func (.func 63) #[] #[cv, cx]] w fun e w' => e = .returned (.tuple #[]) ∧ (J (slL zs 0) w' ∨ ∃ pre, pre <+: slL zs 0 ∧ Jx pre w') := by
  have HJ := hidden hJ
  have H0 := hidden h0
  have HS := hidden hS
  have HP := hidden hp
  have HL := hidden hl
  have HB := hidden hb
  clear hJ h0 hS hp hl hb
  go_enter Try.func62, Try.ntmps62
  go_wp2
  go_loopw [4, 5] (fun at_ i wr => ∃ (k p : Nat) (pre : List (Nat × Nat)), k ≤ n + 1 ∧ i = .int .i64 k ∧ at_ = .int .i64 p ∧ p ≤ 893 * k ∧ Hid (J pre wr) ∧ Hid (isPairs (zs.drop k)) ∧ Hid (pre ++ slL (zs.drop k) p = slL zs 0)) (fun _ i _ => n + 2 - (intOf i).toNat)
  case atStart => exact ⟨0, 0, [], by omega, rfl, rfl, by omega, H0, by rw [List.drop_zero]; exact HP, by rw [List.drop_zero]; rfl⟩
  case round =>
    clear H0 HP
    obtain ⟨k, p, pre, hk, rfl, rfl, hpk, HJ1, HP, HE⟩ := hrel
    by_cases hlt : k + 1 < n
    · have hrd := HJ.out _ _ HJ1.out
      obtain ⟨g, o, rfl, hB⟩ := hrd.bs (by omega)
      have hcn : n ≤ c := hrd.2.1
      have hl' : k + 1 < zs.length := by rw [HL.out]; exact hlt
      have c0 := hB.2 k (by omega)
      have c1 := hB.2 (k + 1) (by omega)
      have b0 := okb_at HB.out k
      have b1 := okb_at HB.out (k + 1)
      obtain ⟨e1, _⟩ := slL_two zs k p hl'
      have hpp := HP.out
      rw [drop_two zs k hl'] at hpp
      obtain ⟨hw, hk0, hk1, hpr⟩ := hpp
      have HE1 := hidden ((congrArg (pre ++ ·) e1).symm.trans HE.out)
      clear e1 HE hB hl' hrd HP
      generalize zs.getD k 0 = x at *
      generalize zs.getD (k + 1) 0 = y at *
      obtain ⟨x, rfl⟩ := Int.eq_ofNat_of_zero_le b0.1
      obtain ⟨y, rfl⟩ := Int.eq_ofNat_of_zero_le b1.1
      simp only [Int.toNat_natCast] at HE1
      have HPR := hidden hpr
      have d1 : (k : Int) + 1 < (n : Int) := by omega
      have hw1 : IntKind.i64.wrap ((k : Int) + 1) = (k : Int) + 1 := by rw [IntKind.wrap_i64]; omega
      have t1 : ((k : Int) + 1).toNat = k + 1 := by omega
      have c1' : wr.cell? ⟨g, o + ((k : Int) + 1).toNat, none⟩ = some (.int .u8 y) := by rw [t1]; exact c1
      have wx8 : IntKind.i64.wrap (x : Int) = x := by rw [IntKind.wrap_i64]; omega
      clear hpr
      go_wp2
      generalize hwq : wr = wq at *
      clear hwq
      go_loopw [4, 24] (fun at_ i wr => ∃ (j r : Nat) (qre : List (Nat × Nat)), j ≤ y ∧ i = .int .u8 j ∧ at_ = .int .i64 r ∧ r ≤ 893 * k + 7 * j ∧ Hid (J qre wr) ∧ Hid (qre ++ (slR x (y - j) r ++ slL (zs.drop (k + 2)) (enR x (y - j) r)) = slL zs 0)) (fun _ i _ => y - (intOf i).toNat)
      case atStart => exact ⟨0, p, pre, by omega, rfl, rfl, by omega, HJ1, by rw [Nat.sub_zero]; exact HE1⟩
      case round =>
        clear HJ1 HE1 c0 c1 c1'
        obtain ⟨j, r, qre, hj, rfl, rfl, hr, HJ2, HE2⟩ := hrel
        by_cases hjl : j < y
        · have hxw : x = 1 ∨ x = 2 ∨ x = 4 := by omega
          have hub := upN_bd r x hxw
          have HU := hidden fun wx => kup_any r x wx hxw (by omega)
          have e3 : y - j = (y - (j + 1)) + 1 := by omega
          rw [e3, slR, enR] at HE2
          have HC := hidden (HS.out qre (upN r x) x wr HJ2.out hxw (by omega) (pre_mid HE2.out).1)
          generalize upN r x = u at *
          have hw2 : IntKind.i64.wrap ((u : Int) + (x : Int)) = (u : Int) + (x : Int) := by rw [IntKind.wrap_i64]; omega
          have d2 : (j : Int) < (y : Int) := by omega
          have hw3 : IntKind.u8.wrap ((j : Int) + 1) = (j : Int) + 1 := by rw [IntKind.wrap_u8]; omega
          obtain ⟨hub0, hub1, _⟩ := hub
          have hx4 : x ≤ 4 := by omega
          clear hw e3 hub0
          go_wp2_with (first | (go_at_call 82; refine (HU.out _).mono ?_; rintro e w1 ⟨rfl, rfl⟩) | (go_at_call 63; refine HC.out.mono ?_; rintro e w2 (⟨rfl, hj2⟩ | ⟨rfl, hjx⟩)))
          · have HJ3 := hidden hj2
            clear hj2
            go_roundw
            case rel => exact ⟨j + 1, u + x, qre ++ [(u, x)], by omega, int_eq (by omega), int_eq (by omega), by omega, HJ3, (pre_mid HE2.out).2⟩
            case measure => simp [intOf]; omega
          · refine bodyPost_ret (v := .tuple #[]) (by simp [results, Try.results62, go_sem]) rfl ⟨rfl, .inr ⟨_, (pre_mid HE2.out).1, hjx⟩⟩
        · obtain rfl : j = y := by omega
          have d2 : ¬ (j : Int) < (j : Int) := by omega
          rw [Nat.sub_self] at HE2
          have hw4 : IntKind.i64.wrap ((k : Int) + 2) = (k : Int) + 2 := by rw [IntKind.wrap_i64]; omega
          go_wp2
          go_roundw
          case rel => exact ⟨k + 2, r, qre, by omega, int_eq (by omega), rfl, by omega, HJ2, HPR, HE2⟩
          case measure => simp [intOf]; omega
    · have d1 : ¬ (k : Int) + 1 < (n : Int) := by omega
      have hw1 : IntKind.i64.wrap ((k : Int) + 1) = (k : Int) + 1 := by rw [IntKind.wrap_i64]; omega
      have e := HE.out
      rw [(slL_few zs k p (by rw [HL.out]; exact hlt)).1, List.append_nil] at e
      subst e
      go_wp2
      refine bodyPost_end (v := .tuple #[]) (by simp [results, Try.results62, go_sem]) rfl ⟨rfl, .inl HJ1.out⟩
theorem kargs1_none (p q : Nat) (b3 b6 : Nat) (la : Option Addr) (lc : Nat) (w : World) (h : w.heap[b3]? = some (.cells #[.slice la 0 lc] 25 (0, 0))) :
    Calls Try.prog 63 #[.int .i64 p, .int .i64 q, .pointer (some ⟨b3, 0, none⟩), .pointer (some ⟨b6, 0, none⟩)] w fun e w' => e = .returned (.bool false) ∧ w' = w := by
  have hc := cell_of_one h
  clear h
  go_enter Try.func63, Try.ntmps63
  go_wp2
  go_ret
  exact ⟨rfl, rfl⟩
theorem kargs1_some (p q : Nat) (b3 b6 ab ao r lc x B g L c P Z : Nat) (zs : List Int) (w : World) (h3 : w.heap[b3]? = some (.cells #[.slice (some ⟨ab, ao, none⟩) (r + 1) lc] 25 (0, 0))) (h6 : w.heap[b6]? = some (.cells #[.slice (some ⟨g, P, none⟩) Z (c - P)] 24 (0, 0)))
    (hx : w.cell? ⟨ab, ao, none⟩ = some (.int .u32 x)) (hlc : r + 1 ≤ lc) (ho : w.ownsRow B 5 1 (.slice (some ⟨g, 0, none⟩) L c) L (bytesV zs)) (hq : q = 1 ∨ q = 2 ∨ q = 4) (hpq : p + q ≤ Z) (hPZ : P + Z ≤ L) (hLc : L ≤ c) (hL : L ≤ 65536) :
    Calls Try.prog 63 #[.int .i64 p, .int .i64 q, .pointer (some ⟨b3, 0, none⟩), .pointer (some ⟨b6, 0, none⟩)] w fun e w' => e = .returned (.bool true) ∧ ∃ w5 la', Below w.heap.size w w5 ∧ (0 < r → la' = some ⟨ab, ao + 1, none⟩) ∧ ∃ w6, w6.ownsRow B 5 1 (.slice (some ⟨g, 0, none⟩) L c) L (bytesV (splice zs (P + p) (putL x q))) ∧ Fm w5 w6 (fun k => (Value.slice (some ⟨g, 0, none⟩) L c).ownBlock = some k) (fun k => (Value.slice (some ⟨g, 0, none⟩) L c).ownBlock = some k) ∧ w' = w6.setCell ⟨b3, 0, none⟩ (.slice la' r (lc - 1)) := by
  have c3 := cell_of_one h3
  have f3 := free_of_one h3
  have c6 := cell_of_one h6
  have hqi : (q : Int) = 1 ∨ (q : Int) = 2 ∨ (q : Int) = 4 := by omega
  have hpl := putL_len (x : Int) (q : Int) hqi
  have HP : Hid (∀ w1, Calls Try.prog 64 #[.int .u32 x, .int .i64 q] w1 fun e w' => e = .returned (.slice (some ⟨w1.heap.size, 0, none⟩) q q) ∧ w' = w1.alloc (.cells (bytesV (putL x q)).toArray 5)) := fun w1 => by
    have := put_any (x : Int) (q : Int) w1 hqi
    rw [show (putL (x : Int) (q : Int)).length = q by omega] at this
    exact this
  have hDl : (putL (x : Int) (q : Int)).length = q := by omega
  generalize putL (x : Int) (q : Int) = D at *
  have HNC : Hid (∀ w1 : World, ∀ j u, (bytesV D)[j]? = some u → (w1.alloc (.cells (bytesV D).toArray 5)).cell? ((⟨w1.heap.size, 0, none⟩ : Addr).add j) = some u) := fun w1 j u hj => new_cell w1 D (by unfold maxLen; omega) j u hj
  have HO : Hid (∀ w4, Below w.heap.size w w4 → w4.ownsRow B 5 1 (.slice (some ⟨g, 0, none⟩) L c) L (bytesV zs)) := fun w4 hb => own_later ho hb
  have HB3 : Hid (∀ w4 w6, Below w.heap.size w w4 → Fm w4 w6 (fun k => (Value.slice (some ⟨g, 0, none⟩) L c).ownBlock = some k) (fun k => (Value.slice (some ⟨g, 0, none⟩) L c).ownBlock = some k) → w6.cell? ⟨b3, 0, none⟩ = some (.slice (some ⟨ab, ao, none⟩) (r + 1) lc) ∧ w6.frozen? ⟨b3, 0, none⟩ = false) := fun w4 w6 hb f => by
    have hne : (Value.slice (some ⟨g, 0, none⟩) L c).ownBlock ≠ some b3 := own_ne ho h3 (by decide)
    have hlt := (Array.getElem?_eq_some_iff.1 h3).1
    have e : w6.heap[b3]? = some (.cells #[.slice (some ⟨ab, ao, none⟩) (r + 1) lc] 25 (0, 0)) := ((f.block b3 (Nat.lt_of_lt_of_le hlt hb.size) hne).trans (hb.block b3 hlt)).trans h3
    exact ⟨cell_of_one e, free_of_one e⟩
  have z1 : p ≤ Z := by omega
  have z2 : ¬ c - P = p := by omega
  have z3 : p ≤ c - P := by omega
  have HMN : Hid (D.length = Nat.min q (Z - p)) := by show _ = min q (Z - p); omega
  have HFI : Hid (P + p + D.length ≤ L) := by show _ ≤ _; omega
  have y1 : ((r : Int) + 1 == 0) = false := by simp; omega
  have y2 : ¬ (r : Int) + 1 = 0 := by omega
  have y3 : (0 : Int) < (r : Int) + 1 := by omega
  have y4 : ((r + 1 : Nat) : Int) = (r : Int) + 1 := by omega
  have y5 : 1 ≤ lc := by omega
  have y6 : (1 : Int) ≤ (r : Int) + 1 := by omega
  have y7 : 1 ≤ r + 1 := by omega
  obtain ⟨la', hla, hlr⟩ : ∃ la', (if lc = 1 then some (⟨ab, ao, none⟩ : Addr) else some ⟨ab, ao + 1, none⟩) = la' ∧ (0 < r → la' = some ⟨ab, ao + 1, none⟩) := by
    by_cases e : lc = 1
    · exact ⟨_, rfl, fun h => by omega⟩
    · exact ⟨_, rfl, fun _ => if_neg e⟩
  have HLR := hidden hlr
  have HB0 := hidden (Below.refl w.heap.size w)
  have c6a : (w.alloc (.cells (bytesV D).toArray 5)).cell? ⟨b6, 0, none⟩ = some (.slice (some ⟨g, P, none⟩) Z (c - P)) := cellLater ((Below.refl _ _).alloc (Nat.le_refl _) _) c6
  clear h3 h6 ho hpl hqi hlr hq
  go_enter Try.func63, Try.ntmps63
  go_wp2
  go_region_law (first | (go_simp; (with_reducible refine (HP.out _).mono ?_); rintro e w3 ⟨rfl, rfl⟩) | (refine step_copy8 (by rfl) (.tmp 12) (.tmp 17) (by rfl) B g L c _ (HO.out _ (HB0.out.drew.alloc (Nat.le_refl _) _)) (some ⟨g, P + p, none⟩) (P + p) (Z - p) (c - P - p) (some ⟨w.heap.size, 0, none⟩) q q (by rfl) (by rfl) D HMN.out (fun _ => ⟨rfl, _, rfl, HNC.out _⟩) HFI.out ?_; intro w6 ho6 f6; obtain ⟨k1, k2⟩ := HB3.out _ _ (HB0.out.drew.alloc (Nat.le_refl _) _) f6.out; have HO6 := hidden ho6; clear ho6) | fail)
  all_goals go_wp2
  all_goals go_ret
  all_goals exact ⟨rfl, _, la', by first | exact HB0.out.drew.alloc (Nat.le_refl _) _ | exact (HB0.out.alloc (Nat.le_refl _) _).drew, HLR.out, w6, HO6.out, f6.out, rfl⟩
end Go.Proofs.Ythhkennomnmjkaa
namespace Go.Proofs.Ythhkennomnmjkaa
open Go.RowKit
set_option maxHeartbeats 1000000
set_option maxRecDepth 100000
set_option linter.unusedVariables false

/-- what lies about a round of Args, some locals on -/
structure ArJ (B m g c P pz Z b3 b6 : Nat) (s : Ks) (la : Option Addr) (len : Nat) (xs : List Nat) (w : World) (pre : List (Nat × Nat)) (W : World) : Prop where
  k : KAt B W m (.slice (some ⟨g, 0, none⟩) s.bs.length c) { s with bs := putA P pre xs s.bs }
  f : Fm w W (TK m (.slice (some ⟨g, 0, none⟩) s.bs.length c)) (TK m (.slice (some ⟨g, 0, none⟩) s.bs.length c))
  b6 : W.heap[b6]? = some (.cells #[.slice (some ⟨g, pz, none⟩) Z (c - P)] 24 (0, 0))
  b3 : ∃ ra rc, W.heap[b3]? = some (.cells #[.slice ra (len - pre.length) rc] 25 (0, 0)) ∧ len - pre.length ≤ rc ∧ (0 < len - pre.length → ∃ ab ao, la = some ⟨ab, ao, none⟩ ∧ ra = some ⟨ab, ao + pre.length, none⟩)
theorem arj_round {B m g c P pz Z b3 b6 : Nat} {s : Ks} {la : Option Addr} {len : Nat} {xs : List Nat} {w : World} (hL : s.bs.length ≤ 65536) (hLc : s.bs.length ≤ c) (hb3 : w.heap.size ≤ b3) (h36 : b3 ≠ b6) (hv : VRow w la len xs) (hab : 0 < len → ∀ x, la = some x → x.block < w.heap.size ∧ ¬ TK m (.slice (some ⟨g, 0, none⟩) s.bs.length c) x.block)
    (pre : List (Nat × Nat)) (p q : Nat) (W : World) (hj : ArJ B m g c P pz Z b3 b6 s la len xs w pre W) (hpl : (putA P pre xs s.bs).length = s.bs.length) (hq : q = 1 ∨ q = 2 ∨ q = 4) (hpq : p + q ≤ Z) (hPZ : P + Z ≤ s.bs.length) (hpz : 0 < Z → pz = P) :
    Calls Try.prog 63 #[.int .i64 p, .int .i64 q, .pointer (some ⟨b3, 0, none⟩), .pointer (some ⟨b6, 0, none⟩)] W fun e w' => (e = .returned (.bool true) ∧ ArJ B m g c P pz Z b3 b6 s la len xs w (pre ++ [(p, q)]) w') ∨ (e = .returned (.bool false) ∧ ArJ B m g c P pz Z b3 b6 s la len xs w pre w' ∧ len ≤ pre.length) := by
  obtain rfl := hpz (by omega)
  obtain ⟨ra, rc, h3, hrc, hra⟩ := hj.b3
  by_cases h0 : len - pre.length = 0
  · rw [h0] at h3
    refine (kargs1_none p q b3 b6 ra rc W h3).mono ?_
    rintro e w' ⟨rfl, rfl⟩
    exact .inr ⟨rfl, hj, by omega⟩
  · obtain ⟨r, hr⟩ : ∃ r, len - pre.length = r + 1 := ⟨len - pre.length - 1, by omega⟩
    obtain ⟨ab, ao, rfl, rfl⟩ := hra (by omega)
    rw [hr] at h3 hrc
    obtain ⟨b, o, e, hc⟩ := hv.cells pre.length (by omega)
    cases e
    obtain ⟨hb1, hb2⟩ := hab (by omega) _ rfl
    have hx : W.cell? ⟨ab, ao + pre.length, none⟩ = some (.int .u32 (xs.getD pre.length 0 : Nat)) := by
      rw [World.cell?_of_block (hj.f.block ab hb1 hb2)]; exact hc
    have hrow := hj.k.row
    simp only [hpl] at hrow
    refine (kargs1_some p q b3 b6 ab (ao + pre.length) r rc (xs.getD pre.length 0) B g s.bs.length c pz Z _ W h3 hj.b6 hx hrc hrow hq hpq hPZ hLc hL).mono ?_
    rintro e w' ⟨rfl, w5, la', hb5, hla, w6, ho6, f6, rfl⟩
    refine .inl ⟨rfl, ?_⟩
    have hsn := putA_snoc pz pre xs s.bs p q (by rw [hv.ln]; omega)
    have hql : (putL ((xs.getD pre.length 0 : Nat) : Int) (q : Int)).length = q := by have := putL_len ((xs.getD pre.length 0 : Nat) : Int) (q : Int) (show (q : Int) = 1 ∨ (q : Int) = 2 ∨ (q : Int) = 4 by omega); omega
    have fw : Fm W w6 (fun k => (Value.slice (some ⟨g, 0, none⟩) s.bs.length c).ownBlock = some k) (fun k => (Value.slice (some ⟨g, 0, none⟩) s.bs.length c).ownBlock = some k) := (Fm.same hb5).trans f6
    have hgl := hj.k.row.lt g rfl
    have hb3g : b3 ≠ g := fun e => by
      have := own_ne hj.k.row h3 (by decide)
      exact this (by rw [e]; rfl)
    have hb3m : b3 ≠ m := fun e => by
      rw [e] at h3
      rw [hj.k.box] at h3
      simp at h3
    have hb6g : b6 ≠ g := fun e => by
      have := hj.b6
      rw [e] at this
      obtain ⟨cur, _, h2, _⟩ := own8_cur hrow
      rw [h2] at this
      simp at this
    obtain ⟨k1, k2⟩ := hj.k.inplace (zs := putA pz (pre ++ [(p, q)]) xs s.bs) (by simpa only [hpl] using fw) (by rw [hsn, length_splice _ _ _ (by omega)]) (by rw [hsn]; simp only [hpl]; exact ho6)
    have hl3 : b3 < w6.heap.size := Nat.lt_of_lt_of_le (Array.getElem?_eq_some_iff.1 h3).1 fw.size
    have h63 : w6.heap[b3]? = some (.cells #[.slice (some ⟨ab, ao + pre.length, none⟩) (r + 1) rc] 25 (0, 0)) := (fw.block b3 (Array.getElem?_eq_some_iff.1 h3).1 (fun e => hb3g (by simp only [Value.ownBlock, Option.some.injEq] at e; exact e.symm))).trans h3
    refine ⟨⟨k1.base, ?_, ?_⟩, ?_, ?_, ?_⟩
    · rw [heap_setCell_other _ _ _ _ (show m ≠ b3 from fun e => hb3m e.symm)]; exact k1.box
    · exact ownsRow_setCell_other k1.row (by simp only [Value.ownBlock, ne_eq, Option.some.injEq]; exact fun e => hb3g e.symm) _
    · have := hj.f.trans k2
      exact ⟨this.os, this.tape, this.output, by have := this.size; simpa using this, fun k hk hn => by rw [heap_setCell_other _ _ _ _ (show k ≠ b3 by omega)]; exact this.block k hk hn, this.row⟩
    · rw [heap_setCell_other _ _ _ _ (fun e => h36 e.symm)]
      exact (fw.block b6 (Array.getElem?_eq_some_iff.1 hj.b6).1 (fun e => hb6g (by simp only [Value.ownBlock, Option.some.injEq] at e; exact e.symm))).trans hj.b6
    · have hlen : len - (pre ++ [(p, q)]).length = r := by simp; omega
      rw [hlen]
      refine ⟨la', rc - 1, one_setCell h63, by omega, fun hr0 => ⟨ab, ao, rfl, ?_⟩⟩
      rw [hla hr0]
      simp [Nat.add_assoc]
theorem kArgs_any (B m : Nat) (v : Value) (s : Ks) (w : World) (h : KAt B w m v s) (ok : OkK s) (la : Option Addr) (len lc : Nat) (xs : List Nat) (hv : VRow w la len xs) (hlc : len ≤ lc) (hab : 0 < len → ∀ x, la = some x → x.block < w.heap.size ∧ ¬ TK m v x.block) :
    Calls Try.prog 38 #[.pointer (some ⟨m, 0, none⟩), .slice la len lc] w fun e w' => e = .returned (.int .i64 (lackE s 0)) ∧ LeftK B w w' m v (argsS s xs) := by
  have hb1 : Below w.heap.size w (w.alloc (.cells #[.slice la len lc] 25)) := (Below.refl _ _).alloc (Nat.le_refl _) _
  have hn3 := heap_alloc_new w (.cells #[.slice la len lc] 25)
  obtain ⟨a, c, rfl, kc⟩ := h.kc'
  have HL := hidden (klacks_any m a c s 0 _ (kc.later hb1) ok)
  unfold argsS
  by_cases h0 : lackE s 0 = 0
  · rw [if_pos h0, h0]
    rw [h0] at HL
    obtain ⟨hon, _⟩ := lack_zero h0
    obtain ⟨b1, b2, b3, b4, b5, b6⟩ := ok.bd hon
    obtain ⟨g, rfl⟩ := KC.isSome h (show 0 < s.bs.length by omega)
    have hcp : s.bs.length ≤ c := kc.rd.2.1
    have hsz := ok.sz
    have hmo := ok.most
    have hlo := ok.loc hon
    have hfr := (ok.cur hon).fr
    have hle := lszK_eq s
    have hbdf := hfr.bd
    have hpos := hfr.pos
    have hfl := frF_len (zs := s.bs) (f := s.fr)
    have HK : Hid (∀ w1, Dr (w.alloc (.cells #[.slice la len lc] 25)) w1 → Calls Try.prog 61 #[.pointer (some ⟨m, 0, none⟩)] w1 fun e w' => (∃ p, e = .returned (.slice (some ⟨g, p, none⟩) (lszK s) (c - posK s)) ∧ (0 < lszK s → p = posK s)) ∧ Dr (w.alloc (.cells #[.slice la len lc] 25)) w') := fun w1 hd => by
      refine (klocals_any m g c s w1 ((kc.later hb1).later hd.below) ok hon).mono ?_
      rintro e w' ⟨h1, hd2⟩
      exact ⟨h1, hd.trans hd2⟩
    have hlr : ∀ W1, Below w.heap.size w W1 → ∀ xs', OkB xs' → xs'.length = s.bs.length → xs'.take (posK s) = s.bs.take (posK s) → W1.ownsRow B 5 1 (.slice (some ⟨g, 0, none⟩) s.bs.length c) s.bs.length (bytesV xs') → Reads W1 (some ⟨g, s.fr + 8, none⟩) (fmtL (s.bs.drop (s.fr + 8))) (c - (s.fr + 8)) (frF s.bs s.fr) := fun W1 hb xs' hx1 hx2 hx3 ho => by
      have e : frF s.bs s.fr = seg xs' (s.fr + 8) (fmtL (s.bs.drop (s.fr + 8))) := by
        unfold frF seg
        rw [List.take_drop, List.take_drop]
        congr 1
        have e2 : s.fr + 8 + fmtL (s.bs.drop (s.fr + 8)) ≤ posK s := by omega
        have : ∀ l : List Int, l.take (s.fr + 8 + fmtL (s.bs.drop (s.fr + 8))) = (l.take (posK s)).take (s.fr + 8 + fmtL (s.bs.drop (s.fr + 8))) := fun l => by rw [List.take_take, Nat.min_eq_left e2]
        rw [this s.bs, this xs', hx3]
      rw [e]
      have := (own_bs ho).sub (s.fr + 8) (fmtL (s.bs.drop (s.fr + 8))) (c - (s.fr + 8)) (by omega) (by omega)
      rw [Nat.zero_add] at this
      exact this
    have HFO : Hid (∀ W1, Below w.heap.size w W1 → Calls Try.prog 45 #[.slice (some ⟨g, s.fr + 8, none⟩) (s.bs.length - (s.fr + 8)) (c - (s.fr + 8))] W1 fun e w' => e = .returned (.tuple #[.slice (some ⟨g, s.fr + 8, none⟩) (fmtL (s.bs.drop (s.fr + 8))) (c - (s.fr + 8)), .bool true]) ∧ ∃ q : Nat, w' = W1.drewN q) := fun W1 hb => by
      have hB := own_bs (h.later hb).row
      have hs := hB.sub (s.fr + 8) (s.bs.length - (s.fr + 8)) (c - (s.fr + 8)) (by omega) (by omega)
      rw [Nat.zero_add] at hs
      have es : seg s.bs (s.fr + 8) (s.bs.length - (s.fr + 8)) = s.bs.drop (s.fr + 8) := by unfold seg; rw [List.take_of_length_le (by rw [List.length_drop]; omega)]
      rw [es] at hs
      refine (kfmt_any _ _ _ _ W1 hs (okb_drop ok.okb _) (by omega)).mono ?_
      rintro e w' ⟨hd, he⟩
      rw [if_neg hfr.ne] at he
      exact ⟨he, hd⟩
    have HEA : Hid (∀ (W1 : World) (pz : Nat), (0 < lszK s → pz = posK s) → Below w.heap.size w W1 → W1.heap[w.heap.size]? = some (.cells #[.slice la len lc] 25 (0, 0)) → W1.heap[w.heap.size + 1]? = some (.cells #[.slice (some ⟨g, pz, none⟩) (lszK s) (c - posK s)] 24 (0, 0)) → Calls Try.prog 62 #[.slice (some ⟨g, s.fr + 8, none⟩) (fmtL (s.bs.drop (s.fr + 8))) (c - (s.fr + 8)), .func (.func 63) #[] #[.pointer (some ⟨w.heap.size, 0, none⟩), .pointer (some ⟨w.heap.size + 1, 0, none⟩)]] W1 fun e w' => e = .returned (.tuple #[]) ∧ LeftK B w w' m (.slice (some ⟨g, 0, none⟩) s.bs.length c) { s with bs := putA (posK s) (slL (frF s.bs s.fr) 0) xs s.bs }) := fun W1 pz hpz hb hq3 hq6 => by
      have hfit := args_fit ok hon
      have hkp : ∀ pre, pre <+: slL (frF s.bs s.fr) 0 → (putA (posK s) pre xs s.bs).length = s.bs.length ∧ (putA (posK s) pre xs s.bs).take (posK s) = s.bs.take (posK s) ∧ OkB (putA (posK s) pre xs s.bs) := fun pre hp => putA_keep _ pre xs s.bs (fun p hm => ⟨(hfit p (hp.subset hm)).1, (hfit p (hp.subset hm)).2.2⟩) ok.okb
      have hB1 : W1.heap.size ≥ w.heap.size := hb.size
      refine (each_args (fun pre W => pre <+: slL (frF s.bs s.fr) 0 ∧ ArJ B m g c (posK s) pz (lszK s) w.heap.size (w.heap.size + 1) s la len xs w pre W) (fun pre W => ∃ pr, pr <+: slL (frF s.bs s.fr) 0 ∧ ArJ B m g c (posK s) pz (lszK s) w.heap.size (w.heap.size + 1) s la len xs w pr W ∧ len ≤ pr.length) _ _ _ _ _ (frF s.bs s.fr) W1 (by omega) (frF_pairs ok.okb hfr.ne) hfl (fun z hz => ok.okb z (List.mem_of_mem_drop (List.mem_of_mem_take hz))) (fun pre wx hj => ?_) ⟨List.nil_prefix, ?_⟩ (fun pre p q wx hj hq hpq hpre => ?_)).mono ?_
      · obtain ⟨k1, k2, k3⟩ := hkp pre hj.1
        have hbx : Below w.heap.size w w := Below.refl _ _
        have hrow := hj.2.k.row
        simp only [k1] at hrow
        have e : frF s.bs s.fr = seg (putA (posK s) pre xs s.bs) (s.fr + 8) (fmtL (s.bs.drop (s.fr + 8))) := by
          unfold frF seg
          rw [List.take_drop, List.take_drop]
          congr 1
          have e2 : s.fr + 8 + fmtL (s.bs.drop (s.fr + 8)) ≤ posK s := by omega
          have : ∀ l : List Int, l.take (s.fr + 8 + fmtL (s.bs.drop (s.fr + 8))) = (l.take (posK s)).take (s.fr + 8 + fmtL (s.bs.drop (s.fr + 8))) := fun l => by rw [List.take_take, Nat.min_eq_left e2]
          rw [this s.bs, this (putA (posK s) pre xs s.bs), k2]
        have hsub := (own_bs hrow).sub (s.fr + 8) (fmtL (s.bs.drop (s.fr + 8))) (c - (s.fr + 8)) (by omega) (by omega)
        rw [Nat.zero_add, ← e] at hsub
        exact hsub
      · refine ⟨?_, Fm.same hb, hq6, ⟨la, lc, by simpa using hq3, by simpa using hlc, fun hr0 => ?_⟩⟩
        · have e : ({ s with bs := putA (posK s) [] xs s.bs } : Ks) = s := by cases xs <;> simp [putA]
          rw [e]; exact h.later hb
        · obtain ⟨b, o, e, _⟩ := hv.cells 0 (by simpa using hr0)
          exact ⟨b, o, e, by simpa using e⟩
      · obtain ⟨k1, k2, k3⟩ := hkp pre hj.1
        have hin := hfit (p, q) (hpre.subset (by simp))
        refine (arj_round (by omega) hcp (Nat.le_refl _) (by omega) hv hab pre p q wx hj.2 k1 hq (by simpa using hin.2.1) (by omega) hpz).mono ?_
        rintro e w' (⟨rfl, hj'⟩ | ⟨rfl, hj', hle'⟩)
        · exact .inl ⟨rfl, hpre, hj'⟩
        · exact .inr ⟨rfl, pre, hj.1, hj', hle'⟩
      · rintro e w' ⟨rfl, hj | ⟨pre, hp, pr, hpr, hj, hle'⟩⟩
        · exact ⟨rfl, _, hj.2.k, hj.2.f⟩
        · obtain ⟨rest, hrest⟩ := hpr
          have e1 : putA (posK s) (slL (frF s.bs s.fr) 0) xs s.bs = putA (posK s) pr xs s.bs := by rw [← hrest, putA_stop _ _ _ _ _ (by rw [hv.ln]; exact hle')]
          rw [e1]
          exact ⟨rfl, _, hj.k, hj.f⟩
    have hmf : ∀ (fn : Fn) (first cap : Array Value) (w : World), (Instr.makeFunc fn first cap).run Try.prog w = .ok (.func fn first cap) w := fun _ _ _ _ => rfl
    have k1 : ∀ W1, Below w.heap.size w W1 → W1.cell? ⟨m, 1, none⟩ = some (.slice (some ⟨g, 0, none⟩) s.bs.length c) ∧ W1.cell? ⟨m, 2, none⟩ = some (.int .i64 s.fr) := fun W1 hb => ⟨(kc.later hb).c1, (kc.later hb).c2⟩
    have HK1 := hidden k1
    have hw8 : IntKind.i64.wrap ((s.fr : Int) + 8) = ((s.fr + 8 : Nat) : Int) := by rw [IntKind.wrap_i64]; omega
    have l1 : s.fr + 8 ≤ s.bs.length := by omega
    have l2 : ¬ c = s.fr + 8 := by omega
    have HB1 := hidden hb1
    have HN3 := hidden hn3
    clear h kc ok hv hab hfr hbdf hpos hlo hle hfl hlr k1 hb1 hn3 b1 b2 b3 b4 b5 b6 hsz hmo hon h0 hlc
    generalize fmtL (s.bs.drop (s.fr + 8)) = K at *
    generalize hA : s.fr + 8 = A at *
    clear hA
    generalize putA (posK s) (slL (frF s.bs s.fr) 0) xs s.bs = Y at *
    generalize lszK s = Z at *
    generalize posK s = P at *
    go_enter Try.func38, Try.ntmps38
    go_wp2_with (first | (go_at_call 51; refine HL.out.mono ?_; rintro e w1 ⟨rfl, hd⟩) | (go_at_call 61; refine (HK.out _ hd).mono ?_; rintro e w2 ⟨⟨pz, rfl, hpz⟩, hd2⟩; have HPZ := hidden hpz; clear hpz))
    obtain ⟨q2, rfl⟩ := hd2
    have hs2 : ((w.alloc (.cells #[.slice la len lc] 25)).drewN q2).heap.size = w.heap.size + 1 := by simp
    have hbX : Below w.heap.size w (((w.alloc (.cells #[.slice la len lc] 25)).drewN q2).alloc (.cells #[.slice (some ⟨g, pz, none⟩) Z (c - P)] 24)) := (Below.drewN' HB1.out q2).alloc (by omega) _
    have h6 := heap_alloc_new ((w.alloc (.cells #[.slice la len lc] 25)).drewN q2) (.cells #[.slice (some ⟨g, pz, none⟩) Z (c - P)] 24)
    have h3 : (((w.alloc (.cells #[.slice la len lc] 25)).drewN q2).alloc (.cells #[.slice (some ⟨g, pz, none⟩) Z (c - P)] 24)).heap[w.heap.size]? = some (.cells #[.slice la len lc] 25 (0, 0)) := (Below.heap_alloc _ _ _ (by omega)).trans HN3.out
    rw [hs2] at h6 ⊢
    generalize ((w.alloc (.cells #[.slice la len lc] 25)).drewN q2).alloc (.cells #[.slice (some ⟨g, pz, none⟩) Z (c - P)] 24) = WX at *
    obtain ⟨x1, x2⟩ := HK1.out _ hbX
    have HFX := hidden (HFO.out _ hbX.drew)
    have HEX := hidden fun q => HEA.out (WX.drewN q) pz HPZ.out (Below.drewN' hbX q) h3 h6
    clear HFO HEA hs2 hbX h3 h6 HB1 HN3 HK HL HK1
    go_region_law (first | (go_simp; (with_reducible refine HFX.out.mono ?_); rintro e w4 ⟨rfl, q4, rfl⟩) | fail)
    all_goals (
      go_wp2_with (first | (go_at_call 62; refine (HEX.out _).mono ?_; rintro e w5 ⟨rfl, hl5⟩; have HL5 := hidden hl5; clear hl5))
      go_ret
      exact ⟨rfl, HL5.out⟩)
  · rw [if_neg h0]
    have HK := hidden (LeftK.same h hb1)
    have HK2 := hidden fun w1 (hd : Dr (w.alloc (.cells #[.slice la len lc] 25)) w1) => LeftK.same h (hb1.trans (hd.below.mono hb1.size))
    generalize lackE s 0 = E at *
    have q : ((E : Int) == 0) = false := by simpa using h0
    have q2 : ¬ (E : Int) = 0 := by omega
    clear h kc ok hv
    go_enter Try.func38, Try.ntmps38
    go_wp2_with (first | (go_at_call 51; refine HL.out.mono ?_; rintro e w1 ⟨rfl, hd⟩))
    go_ret
    exact ⟨rfl, HK2.out _ hd⟩
end Go.Proofs.Ythhkennomnmjkaa
namespace Go.Proofs.Ythhkennomnmjkaa
open Go.RowKit
set_option maxHeartbeats 1000000
set_option maxRecDepth 100000
set_option linter.unusedVariables false

theorem kCopy_any (B m : Nat) (v : Value) (s : Ks) (w : World) (h : KAt B w m v s) (hl : s.bs.length ≤ 2000000) :
    Calls Try.prog 79 #[.pointer (some ⟨m, 0, none⟩)] w fun e w' => e = .returned (.pointer (some ⟨w.heap.size, 0, none⟩)) ∧ (∃ v', KAt w.heap.size w' w.heap.size v' s) ∧ Below w.heap.size w w' := by
  obtain ⟨a, c, rfl, kc⟩ := h.kc'
  obtain ⟨k0, k1, k2, k3, _⟩ := h.cells
  have hb1 : Below w.heap.size w (w.alloc (.cells #[.int .i64 s.size, .slice a s.bs.length c, .int .i64 s.fr, .bool s.on] 61)) := (Below.refl _ _).alloc (Nat.le_refl _) _
  have hn := heap_alloc_new w (.cells #[.int .i64 s.size, .slice a s.bs.length c, .int .i64 s.fr, .bool s.on] 61)
  have k1a := cellLater hb1 k1
  have HC := hidden (bclone_any a _ c s.bs _ (kc.rd.later hb1) hl)
  have HE : Hid (∀ (w2 : World) (a' : Option Addr) (c' : Nat), Below (w.heap.size + 1) (w.alloc (.cells #[.int .i64 s.size, .slice a s.bs.length c, .int .i64 s.fr, .bool s.on] 61)) w2 → w2.ownsRow (w.heap.size + 1) 5 1 (.slice a' s.bs.length c') s.bs.length (bytesV s.bs) → (w2.cell? ⟨w.heap.size, 1, none⟩ = some (.slice a s.bs.length c) ∧ w2.frozen? ⟨w.heap.size, 1, none⟩ = false) ∧ KAt w.heap.size (w2.setCell ⟨w.heap.size, 1, none⟩ (.slice a' s.bs.length c')) w.heap.size (.slice a' s.bs.length c') s ∧ Below w.heap.size w (w2.setCell ⟨w.heap.size, 1, none⟩ (.slice a' s.bs.length c'))) := fun w2 a' c' hb ho => by
    have hh : w2.heap[w.heap.size]? = some (.cells #[.int .i64 s.size, .slice a s.bs.length c, .int .i64 s.fr, .bool s.on] 61 (0, 0)) := (hb.block _ (by omega)).trans hn
    refine ⟨⟨by simp [World.cell?, hh], by simp [World.frozen?, hh]⟩, ⟨Nat.le_refl _, ?_, ?_⟩, ?_⟩
    · rw [kset hh]; simp
    · exact ownsRow_setCell_other (own_base ho (by omega)) (by intro e; have := (ho.lt _ e).1; simp only at this; omega) _
    · exact (hb1.trans (hb.mono (by omega))).setCell (p := ⟨w.heap.size, 1, none⟩) (Nat.le_refl _) _
  simp only [World.size_alloc] at HC
  clear h kc hb1 hn
  go_enter Try.func79, Try.ntmps79
  go_wp2_with (first | (go_at_call 24; refine HC.out.mono ?_; rintro e w2 ⟨a', c', rfl, ho, hb⟩; obtain ⟨⟨t1, t2⟩, t3, t4⟩ := HE.out _ _ _ hb ho; have T3 := hidden t3; have T4 := hidden t4; clear t3 t4 ho hb))
  go_ret
  exact ⟨rfl, ⟨_, T3.out⟩, T4.out⟩
/-! ### Throw -/
theorem thrB_fuel (zs : List Int) (t g : Nat) : ∀ (k k' f e u : Nat), Chn zs f u → f < k → f < k' → thrB zs t g k f e = thrB zs t g k' f e
  | 0, k', f, e, u, _, h, _ => by omega
  | k + 1, 0, f, e, u, _, _, h => by omega
  | k + 1, k' + 1, f, e, u, hc, h1, h2 => by
    rw [thrB, thrB]
    split
    · rfl
    · split
      · rfl
      · rename_i h0
        obtain ⟨g1, g2, g3⟩ := hc.lt h0
        exact thrB_fuel zs t g k k' _ f _ g3 (by omega) (by omega)
theorem thrB_less (zs : List Int) (t g : Nat) : ∀ (k f e u : Nat), Chn zs f u → f < g → thrB zs t g k f e = false
  | 0, f, e, u, _, _ => rfl
  | k + 1, f, e, u, hc, h => by
    rw [thrB, if_neg (by omega)]
    split
    · rfl
    · rename_i h0
      obtain ⟨g1, g2, g3⟩ := hc.lt h0
      exact thrB_less zs t g k _ f _ g3 (by omega)
/-- what is looked for in one frame -/
def thrC (zs : List Int) (t g f e : Nat) : Prop := f = g ∧ f + nu zs f + 16 ≤ t ∧ t ≤ e
theorem thr_zero (zs : List Int) (t g e : Nat) : thrB zs t g 1 0 e = true ↔ thrC zs t g 0 e := by
  unfold thrB thrC
  by_cases h : 0 = g
  · rw [if_pos h]; simp [h]
  · rw [if_neg h]; simp [h]
theorem thr_step (zs : List Int) (t g f e u : Nat) (hc : Chn zs f u) (h0 : f ≠ 0) : thrB zs t g (f + 1) f e = true ↔ thrC zs t g f e ∨ thrB zs t g (nu zs (f - 4) + 1) (nu zs (f - 4)) f = true := by
  obtain ⟨g1, g2, g3⟩ := hc.lt h0
  rw [thrB]
  unfold thrC
  by_cases h : f = g
  · rw [if_pos h, thrB_less zs t g _ _ f _ g3 (by omega)]; simp [h]
  · rw [if_neg h, if_neg h0, thrB_fuel zs t g f (nu zs (f - 4) + 1) _ f _ g3 (by omega) (by omega)]; simp [h]
end Go.Proofs.Ythhkennomnmjkaa
namespace Go.Proofs.Ythhkennomnmjkaa
open Go.RowKit Go.Shelf
set_option maxHeartbeats 1000000
set_option maxRecDepth 100000
set_option linter.unusedVariables false
attribute [local go_sem] Oper.semAt_some

theorem kThrow_bad (B m : Nat) (v : Value) (s : Ks) (w : World) (h : KAt B w m v s) (ok : OkK s) (t : Nat) (ht : t < 4294967296) (hbad : ¬ (s.on = true ∧ t % 4 = 0 ∧ 16 ≤ t ∧ t ≤ s.bs.length)) :
    Calls Try.prog 74 #[.pointer (some ⟨m, 0, none⟩), .int .u32 t] w fun e w' => e = .returned (.int .i64 104) ∧ LeftK B w w' m v s := by
  have hb2 : Below w.heap.size w ((w.alloc (.cells #[.pointer (some ⟨m, 0, none⟩)] 30)).alloc (.cells #[.int .i64 104] 43)) := ((Below.refl _ _).alloc (Nat.le_refl _) _).alloc (by simp) _
  have hb0 : Below w.heap.size w ((w.alloc (.cells #[.pointer (some ⟨m, 0, none⟩)] 30)).alloc (.cells #[.int .i64 0] 43)) := ((Below.refl _ _).alloc (Nat.le_refl _) _).alloc (by simp) _
  have hc : ((w.alloc (.cells #[.pointer (some ⟨m, 0, none⟩)] 30)).alloc (.cells #[.int .i64 104] 43)).cell? ⟨w.heap.size + 1, 0, none⟩ = some (.int .i64 104) := by
    have := cell_of_one (heap_alloc_new (w.alloc (.cells #[.pointer (some ⟨m, 0, none⟩)] 30)) (.cells #[.int .i64 104] 43))
    rwa [World.size_alloc] at this
  obtain ⟨a, c, rfl, kc⟩ := h.kc'
  have hsz := ok.sz
  have hmo := ok.most
  have k3 := (kc.later hb0).c3
  have HT := hidden (kTop_any m a c s _ (kc.later hb0) (by omega))
  have HX := hidden (LeftK.same h hb2)
  have hmt : (t : Int).tmod 4 = ((t % 4 : Nat) : Int) := by rw [Int.tmod_eq_emod_of_nonneg (by omega)]; omega
  have hwm : IntKind.u32.wrap ((t % 4 : Nat) : Int) = ((t % 4 : Nat) : Int) := by rw [IntKind.wrap_u32]; omega
  clear h kc ok hb0
  refine (callsIn_wide (n := 3)).1 (callsIn_of_wp_marks Try.func74 rfl trivial ?_ rfl)
  simp only [Try.ntmps74, List.size_toArray, List.length_cons, List.length_nil, Nat.reduceAdd, Nat.reduceSub, Array.replicate_succ, Array.replicate_zero, List.push_toArray, List.append_toArray, List.nil_append, List.cons_append]
  cases hon : s.on with
  | false =>
    rw [hon] at k3
    gi_wp2
    refine ⟨trivial, ?_⟩
    gi_wp2
    refine ⟨.int .i64 104, ?_, rfl, HX.out⟩
    simp [results, Try.results74, go_sem, hc]
  | true =>
    rw [hon] at k3
    by_cases h4 : t % 4 = 0
    · rw [h4] at hmt hwm
      by_cases h16 : 16 ≤ t
      · have hL : ¬ t ≤ s.bs.length := fun e => hbad ⟨hon, h4, h16, e⟩
        have d1 : ¬ (t : Int) < 16 := by omega
        have d2 : (t : Int) > (s.bs.length : Int) := by omega
        clear hbad
        generalize s.bs.length = L at *
        gi_wp2_with (first | (refine ⟨trivial, ?_⟩; gi_at_call 10; refine (callsIn_wide.2 HT.out).mono ?_; rintro e w1 ⟨rfl, rfl⟩))
        refine ⟨.int .i64 104, ?_, rfl, HX.out⟩
        simp [results, Try.results74, go_sem, hc]
      · have d1 : (t : Int) < 16 := by omega
        clear hbad
        gi_wp2
        refine ⟨trivial, ?_⟩
        gi_wp2
        refine ⟨.int .i64 104, ?_, rfl, HX.out⟩
        simp [results, Try.results74, go_sem, hc]
    · clear hbad
      generalize t % 4 = X at *
      have q1 : ((X : Int) == 0) = false := by simp; omega
      have q2 : ¬ (X : Int) = 0 := by omega
      gi_wp2
      refine ⟨trivial, ?_⟩
      gi_wp2
      refine ⟨.int .i64 104, ?_, rfl, HX.out⟩
      simp [results, Try.results74, go_sem, hc]
end Go.Proofs.Ythhkennomnmjkaa
namespace Go.Proofs.Ythhkennomnmjkaa
open Go.RowKit
set_option maxHeartbeats 1000000
set_option maxRecDepth 100000
set_option linter.unusedVariables false

def noDefer (o : Oper) : Bool := match o.op with
  | .defer _ => false
  | _ => true
theorem noDefer_ne {o : Oper} (h : noDefer o = true) : ∀ c, o.op ≠ .defer c := fun c e => by
  unfold noDefer at h
  rw [e] at h
  cases h
theorem wpOp_round {F : Fence} {n : Nat} {P : Program} {ops : Array Oper} {Q : Exit → Act → World → Prop} (hro : F.round = none) (l : Nat) (hd : ops.all noDefer = true) {i : Nat} {K : Act → World → Prop} {a : Act} {w : World} (h : wpOpIn F n P ops Q i K a w) : wpOpIn (F.inRound l) n P ops Q i K a w := by
  unfold wpOpIn at *
  cases ho : ops[i]? with
  | none => simpa [ho] using h
  | some o =>
    simp only [ho] at h ⊢
    have hn : noDefer o = true := by
      have := Array.all_eq_true.1 hd i (Array.getElem?_eq_some_iff.1 ho).1
      rwa [(Array.getElem?_eq_some_iff.1 ho).2] at this
    split
    · rename_i hw
      rw [if_pos hw] at h
      refine ⟨h.1, ?_⟩
      have h2 := h.2
      rw [Oper.semAt_eq F.round a.eval o (noDefer_ne hn)] at h2
      rw [Oper.semAt_eq (F.inRound l).round a.eval o (noDefer_ne hn)]
      cases hr : (execOp a.eval o).run P w with
      | ok x w' => rw [hr] at h2; cases x <;> exact h2
      | halt x w' => rw [hr] at h2; cases x <;> exact h2
    · rename_i hw
      rw [if_neg hw] at h
      exact h
theorem wpAny_round {F : Fence} {n : Nat} {P : Program} {ops : Array Oper} {md : Region.Mode} {Q : Exit → Act → World → Prop} (hro : F.round = none) (l : Nat) (hd : ops.all noDefer = true) : ∀ (fuel : Nat) (listed : Array Bool) (a : Act) (w : World), wpAnyIn F n P md ops Q fuel listed a w → wpAnyIn (F.inRound l) n P md ops Q fuel listed a w
  | 0, _, _, _, h => h
  | fuel + 1, _, _, _, h => ⟨h.1, fun i hi => wpOp_round hro l hd (wpOpIn_mono (fun a w hh => wpAny_round hro l hd fuel _ a w hh) (h.2 i hi))⟩
theorem quiet_round {F : Fence} {n : Nat} {P : Program} {id : Nat} {Q : Exit → Act → World → Prop} {a : Act} {w : World} {r : List Oper} (l : Nat) (hro : F.round = none) (hd : r.toArray.all noDefer = true) (hm : P.follows .mixedOrders = true) (hB : Region.lexB .any r.toArray = true)
    (h : wpQuietIn F n P r.toArray (fun w' => ∃ n, w' = w.drewN n) (fun a' => ∀ w', (∃ n, w' = w.drewN n) → Q .normal a' w') r a) : (Code.region id r.toArray true).wpIn (F.inRound l) n P Q a w := by
  simp only [Region.lexB, Bool.and_eq_true] at hB
  refine wpIn_region_any hm (wpAny_round hro l hd _ _ _ _ (wpAnyIn_of_quiet (C := fun w' => ∃ n, w' = w.drewN n) (Q := fun a' => ∀ w', (∃ n, w' = w.drewN n) → Q .normal a' w') hro (fun _ w' hw' h => h w' hw') _ _ _ _ ⟨1, rfl⟩ ?_))
  have := wpAnyQIn_lex (F := F) (n := n) (C := fun w' => ∃ n, w' = w.drewN n) (md := .any) hB.1 r.toArray.toList 0 (Array.replicate r.toArray.size false) a (by simp) (by simpa using hB.2) (by simpa using h)
  simpa using this
/-- where it ends normally, and how -/
def OnlyN (K : Act → World → Prop) : Exit → Act → World → Prop
  | .normal, a, w => K a w
  | _, _, _ => False
theorem rows_wide {n : Nat} {P : Program} {row : String} {args : Array Value} {w : World} {R : Value → World → Prop} (h : Rows P row args w R) : RowsIn Fence.wide n P row args w R := fun c cs _ => by
  obtain ⟨v, w', hr, hs⟩ := h c cs
  exact ⟨v, w', hr, stepsIn_wide.2 hs⟩
theorem held_op {P : Program} {ops : Array Oper} {K0 : Act → World → Prop} (l n : Nat) (hd : ops.all noDefer = true) {i : Nat} {K : Act → World → Prop} {a : Act} {w : World} (h : wpOp P ops (OnlyN K0) i K a w) : wpOpIn (Fence.wide.inRound l) n P ops (OnlyN K0) i K a w := by
  unfold wpOp at h
  unfold wpOpIn
  cases ho : ops[i]? with
  | none => simpa [ho] using h
  | some o =>
    simp only [ho] at h ⊢
    have hn : noDefer o = true := by
      have := Array.all_eq_true.1 hd i (Array.getElem?_eq_some_iff.1 ho).1
      rwa [(Array.getElem?_eq_some_iff.1 ho).2] at this
    have hab : ∀ f, o.about P w a.eval = some f → (Fence.wide.inRound l).fn f := fun f hf => trivial
    split
    · rename_i hw
      rw [if_pos hw] at h
      rcases h with h | ⟨_, x, y, hf⟩
      · refine ⟨hab, ?_⟩
        rw [Oper.semAt_eq (Fence.wide.inRound l).round a.eval o (noDefer_ne hn)]
        unfold Oper.wp at h
        cases hr : (execOp a.eval o).run P w with
        | ok x w' =>
          rw [hr] at h
          cases x with
          | value v => exact h
          | skip => exact h
          | defer d => exact h
          | enter f args => exact ⟨fun e => (by cases e), callsIn_wide.2 h⟩
          | row r args => exact ⟨fun e => (by cases e), rows_wide h⟩
          | _ => exact h.elim
        | halt x w' =>
          rw [hr] at h
          cases x <;> exact h
      · exact hf.elim
    · rename_i hw
      rw [if_neg hw] at h
      exact ⟨hab, h⟩
theorem held_any {P : Program} {ops : Array Oper} {K0 : Act → World → Prop} {S : World → Prop} {md : Region.Mode} (l n : Nat) (hd : ops.all noDefer = true) : ∀ (fuel : Nat) (listed : Array Bool) (a : Act) (w : World), wpAnyH P md ops (OnlyN K0) S fuel listed a w → wpAnyIn (Fence.wide.inRound l) n P md ops (OnlyN K0) fuel listed a w
  | 0, _, _, _, h => h
  | fuel + 1, _, _, _, h => ⟨h.1, fun i hi => wpOpIn_mono (fun a w hh => held_any l n hd fuel _ a w hh.2) (held_op l n hd (h.2 i hi))⟩
/-- a region that draws, within a round, by a walk that holds S -/
theorem held_round {P : Program} {id : Nat} {r : List Oper} {K0 : Act → World → Prop} (S : World → Prop) {Q : Exit → Act → World → Prop} {n : Nat} {a : Act} {w : World} (l : Nat) (hd : r.toArray.all noDefer = true) (hm : P.follows .mixedOrders = true)
    (hQ : ∀ a w, K0 a w → Q .normal a w) (h : wpAnyH P .any r.toArray (OnlyN K0) S r.toArray.size (Array.replicate r.toArray.size false) a w.drew) : (Code.region id r.toArray true).wpIn (Fence.wide.inRound l) n P Q a w := by
  refine wpIn_mono (Q := OnlyN K0) (wpIn_region_any hm (held_any l n hd _ _ _ _ h)) ?_
  intro e a' w' hh
  cases e with
  | normal => exact hQ _ _ hh
  | _ => exact hh.elim
theorem only_put {K0 : Act → World → Prop} {d : Option Tmp} {v : Value} : ∀ c a w, OnlyN K0 (.panic c) (a.put d v) w → OnlyN K0 (.panic c) a w := fun _ _ _ h => h.elim
/-- one operation of such a walk taken first; the last ones, one by one -/
theorem held_take {P : Program} {r : List Oper} {K0 : Act → World → Prop} {S : World → Prop} (i : Nat) (v : Value) {oi : Oper} {fuel : Nat} {listed : Array Bool} {a : Act} {w : World} (hi : r.toArray[i]? = some oi)
    (hs : Region.noSelect r.toArray = true) (hf : Region.free .any r.toArray listed i = true) (hr : (Region.ready .any r.toArray listed).contains i = true)
    (hw : Region.wanted oi (yielded r.toArray a.tmps) = true) (hy : ∀ w, S w → (execOp a.eval oi).run P w = .ok (.value v) w) (hS : S w)
    (h : wpAnyH P .any r.toArray (OnlyN K0) S fuel (listed.setIfInBounds i true) (a.put oi.dst v) w) : wpAnyH P .any r.toArray (OnlyN K0) S (fuel + 1) listed a w :=
  wpAnyH_take hi hs hf hr only_put (.inl ⟨hw, hy⟩) hS h
theorem held_one {P : Program} {r : List Oper} {K0 : Act → World → Prop} {S : World → Prop} (i : Nat) {oi : Oper} {fuel : Nat} {listed : Array Bool} {a : Act} {w w' : World} (hi : r.toArray[i]? = some oi)
    (hr : Region.ready .any r.toArray listed = [i]) (hw : Region.wanted oi (yielded r.toArray a.tmps) = true) (hy : (execOp a.eval oi).run P w = .ok .skip w') (hS : S w')
    (h : wpAnyH P .any r.toArray (OnlyN K0) S fuel (listed.setIfInBounds i true) (a.put oi.dst undef) w') : wpAnyH P .any r.toArray (OnlyN K0) S (fuel + 1) listed a w := by
  refine wpAnyH_all hr (by simp) fun j hj => ?_
  obtain rfl : j = i := by simpa using hj
  unfold wpOp
  simp only [hi, hw, if_true]
  refine .inl ?_
  unfold Oper.wp
  rw [hy]
  exact ⟨hS, h⟩
theorem held_val {P : Program} {r : List Oper} {K0 : Act → World → Prop} {S : World → Prop} (i : Nat) (v : Value) {oi : Oper} {fuel : Nat} {listed : Array Bool} {a : Act} {w : World} (hi : r.toArray[i]? = some oi)
    (hr : Region.ready .any r.toArray listed = [i]) (hw : Region.wanted oi (yielded r.toArray a.tmps) = true) (hy : (execOp a.eval oi).run P w = .ok (.value v) w) (hS : S w)
    (h : wpAnyH P .any r.toArray (OnlyN K0) S fuel (listed.setIfInBounds i true) (a.put oi.dst v) w) : wpAnyH P .any r.toArray (OnlyN K0) S (fuel + 1) listed a w := by
  refine wpAnyH_all hr (by simp) fun j hj => ?_
  obtain rfl : j = i := by simpa using hj
  unfold wpOp
  simp only [hi, hw, if_true]
  refine .inl ?_
  unfold Oper.wp
  rw [hy]
  exact ⟨hS, h⟩
/-- the same, where all ends in one way -/
theorem held_round2 {P : Program} {id : Nat} {r : List Oper} (S : World → Prop) {Q : Exit → Act → World → Prop} {n : Nat} {a A : Act} {w W7 : World} (l : Nat) (hd : r.toArray.all noDefer = true) (hm : P.follows .mixedOrders = true)
    (h : wpAnyH P .any r.toArray (OnlyN (fun a' w' => a' = A ∧ w' = W7)) S r.toArray.size (Array.replicate r.toArray.size false) a w.drew) (hQ : Q .normal A W7) : (Code.region id r.toArray true).wpIn (Fence.wide.inRound l) n P Q a w :=
  held_round S l hd hm (fun a' w' hh => by rw [hh.1, hh.2]; exact hQ) h
theorem held_end {P : Program} {r : List Oper} {S : World → Prop} {listed : Array Bool} {A : Act} {W7 : World} (hr : Region.ready .any r.toArray listed = []) (fuel : Nat) : wpAnyH P .any r.toArray (OnlyN (fun a' w' => a' = A ∧ w' = W7)) S fuel listed A W7 := wpAnyH_done hr ⟨rfl, rfl⟩ fuel
end Go.Proofs.Ythhkennomnmjkaa
namespace Go.Proofs.Ythhkennomnmjkaa
open Go.RowKit Go.Shelf
set_option maxHeartbeats 1000000
set_option maxRecDepth 100000
set_option linter.unusedVariables false
set_option linter.unusedSimpArgs false
attribute [local go_sem] Oper.semAt_some
theorem wide_fn (f : FuncId) : Fence.wide.fn f = True := rfl
attribute [local go_sem] wide_fn

/-- what lies about a round of Throw: the boxes of the stack, the answer, the token, the frame that is told, the row, the frame -/
structure Thr (w : World) (m : Nat) (a : Option Addr) (L c t g f : Nat) (W : World) : Prop where
  below : Below w.heap.size w W
  b0 : W.heap[w.heap.size]? = some (.cells #[.pointer (some ⟨m, 0, none⟩)] 30 (0, 0))
  b1 : ∃ z, W.heap[w.heap.size + 1]? = some (.cells #[.int .i64 z] 43 (0, 0))
  b2 : W.heap[w.heap.size + 1 + 1]? = some (.cells #[.int .i64 t] 3 (0, 0))
  b3 : W.heap[w.heap.size + 1 + 1 + 1]? = some (.cells #[.int .i64 g] 3 (0, 0))
  b4 : W.heap[w.heap.size + 1 + 1 + 1 + 1]? = some (.cells #[.slice a L c] 24 (0, 0))
  b5 : W.heap[w.heap.size + 1 + 1 + 1 + 1 + 1]? = some (.cells #[.int .i64 f] 3 (0, 0))
theorem Thr.later {w W W' : World} {m : Nat} {a : Option Addr} {L c t g f : Nat} (h : Thr w m a L c t g f W) (hb : Below W.heap.size W W') : Thr w m a L c t g f W' := by
  have hm : ∀ k o, W.heap[k]? = some o → W'.heap[k]? = some o := fun k o e => (hb.block k (Array.getElem?_eq_some_iff.1 e).1).trans e
  obtain ⟨z, hz⟩ := h.b1
  exact ⟨h.below.trans (hb.mono h.below.size), hm _ _ h.b0, ⟨z, hm _ _ hz⟩, hm _ _ h.b2, hm _ _ h.b3, hm _ _ h.b4, hm _ _ h.b5⟩
theorem thr_put {w : World} {m N : Nat} {a : Option Addr} {L c t g f : Nat} (hN : w.heap.size ≤ N) : PutOk N (Thr w m a L c t g f) := fun W l o o' h1 h2 h3 h => by
  obtain ⟨z, hz⟩ := h.b1
  exact ⟨putOk_below hN W l o o' h1 h2 h3 h.below, putOk_block W l o o' h1 h2 h3 h.b0, ⟨z, putOk_block W l o o' h1 h2 h3 hz⟩, putOk_block W l o o' h1 h2 h3 h.b2, putOk_block W l o o' h1 h2 h3 h.b3, putOk_block W l o o' h1 h2 h3 h.b4, putOk_block W l o o' h1 h2 h3 h.b5⟩
theorem leftK_put {w : World} {B m N : Nat} {v : Value} {s : Ks} (hN : w.heap.size ≤ N) : PutOk N (fun W => LeftK B w W m v s) := fun W l o o' h1 h2 h3 h => by
  obtain ⟨v', k, f⟩ := h
  refine ⟨v', ⟨k.base, putOk_block W l o o' h1 h2 h3 k.box, k.row.1, ?_⟩, ⟨f.os, f.tape, f.output, by have := f.size; simpa using this, fun j hj hn => by rw [World.putObj_heap_other (show j ≠ l by omega)]; exact f.block j hj hn, f.row⟩⟩
  rcases k.row.2 with e | ⟨g, cap, cur, e1, e2, e3, e4⟩
  · exact .inl e
  · exact .inr ⟨g, cap, cur, e1, e2, putOk_block W l o o' h1 h2 h3 e3, e4⟩
/-- a box that is not the stack's gets another value -/
theorem leftK_set {w W : World} {B m b : Nat} {v u : Value} {s : Ks} {z : Int} (hb : w.heap.size ≤ b) (hz : W.heap[b]? = some (.cells #[.int .i64 z] 43 (0, 0))) (h : LeftK B w W m v s) : LeftK B w (W.setCell ⟨b, 0, none⟩ u) m v s := by
  obtain ⟨v', k, f⟩ := h
  have hmb : m ≠ b := fun e => by have := k.box; rw [e, hz] at this; simp at this
  refine ⟨v', ⟨k.base, (heap_setCell_other W _ _ _ hmb).trans k.box, k.row.1, ?_⟩, ⟨f.os, f.tape, f.output, by have := f.size; simpa using this, fun j hj hn => (heap_setCell_other W _ _ _ (show j ≠ b by omega)).trans (f.block j hj hn), f.row⟩⟩
  rcases k.row.2 with e | ⟨g, cap, cur, e1, e2, e3, e4⟩
  · exact .inl e
  · have hgb : g ≠ b := fun e => by rw [e, hz] at e3; simp at e3
    exact .inr ⟨g, cap, cur, e1, e2, (heap_setCell_other W _ _ _ hgb).trans e3, e4⟩
theorem heap_later {A C : World} (hb : Below A.heap.size A C) {k : Nat} {o : Obj} (e : A.heap[k]? = some o) : C.heap[k]? = some o := (hb.block k (Array.getElem?_eq_some_iff.1 e).1).trans e
/-- four boxes laid, and two more -/
theorem thr_new (w W4 : World) (m : Nat) (a : Option Addr) (L c t g f : Nat) (hb : Below w.heap.size w W4) (hs : W4.heap.size = w.heap.size + 1 + 1 + 1 + 1) (h0 : W4.heap[w.heap.size]? = some (.cells #[.pointer (some ⟨m, 0, none⟩)] 30 (0, 0))) (h1 : W4.heap[w.heap.size + 1]? = some (.cells #[.int .i64 0] 43 (0, 0))) (h2 : W4.heap[w.heap.size + 1 + 1]? = some (.cells #[.int .i64 t] 3 (0, 0))) (h3 : W4.heap[w.heap.size + 1 + 1 + 1]? = some (.cells #[.int .i64 g] 3 (0, 0))) :
    Thr w m a L c t g f ((W4.alloc (.cells #[.slice a L c] 24)).alloc (.cells #[.int .i64 f] 3)) := by
  have b1 : Below W4.heap.size W4 (W4.alloc (.cells #[.slice a L c] 24)) := (Below.refl _ _).alloc (Nat.le_refl _) _
  have n1 := heap_alloc_new W4 (.cells #[.slice a L c] 24)
  have s1 : (W4.alloc (.cells #[.slice a L c] 24)).heap.size = W4.heap.size + 1 := by simp
  generalize W4.alloc (.cells #[.slice a L c] 24) = W5 at *
  have b2 : Below W5.heap.size W5 (W5.alloc (.cells #[.int .i64 (f : Int)] 3)) := (Below.refl _ _).alloc (Nat.le_refl _) _
  have n2 := heap_alloc_new W5 (.cells #[.int .i64 (f : Int)] 3)
  generalize W5.alloc (.cells #[.int .i64 (f : Int)] 3) = W6 at *
  refine ⟨(hb.trans (b1.mono (by omega))).trans (b2.mono (by omega)), heap_later b2 (heap_later b1 h0), ⟨0, heap_later b2 (heap_later b1 h1)⟩, heap_later b2 (heap_later b1 h2), heap_later b2 (heap_later b1 h3), ?_, ?_⟩
  · rw [← hs]; exact heap_later b2 n1
  · rw [← hs, ← s1]; exact n2
/-- what is known of the frame and the end that a round is handed -/
def ThrP (s : Ks) (t g : Nat) (x : Nat × Nat) : Prop := ∃ u, Chn s.bs x.1 u ∧ u ≤ x.2 ∧ x.2 ≤ s.bs.length ∧ (thrB s.bs t g s.bs.length s.fr s.bs.length = true ↔ thrB s.bs t g (x.1 + 1) x.1 x.2 = true)
theorem thr_first {s : Ks} {t g : Nat} (ok : OkK s) (hon : s.on = true) : ThrP s t g (s.fr, s.bs.length) := by
  have hc := ok.cur hon
  have hb := ok.bd hon
  refine ⟨s.bs.length, hc, Nat.le_refl _, Nat.le_refl _, ?_⟩
  rw [thrB_fuel s.bs t g s.bs.length (s.fr + 1) s.fr s.bs.length _ hc (by omega) (by omega)]
theorem thr_next {w W : World} {m : Nat} {a : Option Addr} {c t g : Nat} {s : Ks} {x : Nat × Nat} (ok : OkK s) (h0 : x.1 ≠ 0) (h : Thr w m a s.bs.length c t g x.1 W ∧ ThrP s t g x ∧ ¬ thrC s.bs t g x.1 x.2) :
    4 ≤ x.1 ∧ x.1 ≤ s.bs.length ∧ x.1 < x.2 ∧ ∀ q, Thr w m a s.bs.length c t g (nu s.bs (x.1 - 4)) ((W.drewN q).setCell ⟨w.heap.size + 1 + 1 + 1 + 1 + 1, 0, none⟩ (.int .i64 (nu s.bs (x.1 - 4)))) ∧ ThrP s t g (nu s.bs (x.1 - 4), x.1) := by
  obtain ⟨hs, ⟨u, hc, h1, h2, h3⟩, hn⟩ := h
  have hbd := hc.fr.bd
  obtain ⟨g1, g2, g3⟩ := hc.lt h0
  refine ⟨by omega, by omega, by omega, fun q => ⟨?_, x.1 - 16, g3, by simp only; omega, by simp only; omega, ?_⟩⟩
  · obtain ⟨z, hz⟩ := hs.b1
    have ho : ∀ k, k ≠ w.heap.size + 1 + 1 + 1 + 1 + 1 → ((W.drewN q).setCell ⟨w.heap.size + 1 + 1 + 1 + 1 + 1, 0, none⟩ (.int .i64 (nu s.bs (x.1 - 4)))).heap[k]? = W.heap[k]? := fun k hk => heap_setCell_other (W.drewN q) _ _ _ hk
    refine ⟨?_, (ho _ (by omega)).trans hs.b0, ⟨z, (ho _ (by omega)).trans hz⟩, (ho _ (by omega)).trans hs.b2, (ho _ (by omega)).trans hs.b3, (ho _ (by omega)).trans hs.b4, one_setCell (w := W.drewN q) hs.b5⟩
    have := hs.below.trans ((Dr.below (w := W) (w1 := W.drewN q) ⟨q, rfl⟩).mono hs.below.size)
    exact this.setCell (p := ⟨w.heap.size + 1 + 1 + 1 + 1 + 1, 0, none⟩) (by simp only; omega) _
  · rw [h3, thr_step s.bs t g x.1 x.2 u hc h0]
    constructor
    · rintro (h | h)
      · exact absurd h hn
      · exact h
    · exact fun h => .inr h
/-- a round has found the frame -/
def ThrX (w : World) (B m : Nat) (v : Value) (s : Ks) (t g : Nat) (W : World) : Prop := (LeftK B w W m v ⟨s.size, s.bs.take t, g, true⟩ ∧ W.heap[w.heap.size + 1]? = some (.cells #[.int .i64 0] 43 (0, 0))) ∧ thrB s.bs t g s.bs.length s.fr s.bs.length = true
theorem thrx_put {w : World} {B m N : Nat} {v : Value} {s : Ks} {t g : Nat} (hN : w.heap.size ≤ N) : PutOk N (ThrX w B m v s t g) := putOk_and (putOk_and (leftK_put hN) putOk_block) (putOk_pure _)
theorem kThrow_good (B m : Nat) (v : Value) (s : Ks) (w : World) (h : KAt B w m v s) (ok : OkK s) (t : Nat) (ht : t < 4294967296) (hon : s.on = true) (h4 : t % 4 = 0) (h16 : 16 ≤ t) (htL : t ≤ s.bs.length) :
    Calls Try.prog 74 #[.pointer (some ⟨m, 0, none⟩), .int .u32 t] w fun e w' => e = .returned (.int .i64 (thrE s t)) ∧ LeftK B w w' m v (thrS s t) := by
  have hb0 : Below w.heap.size w ((w.alloc (.cells #[.pointer (some ⟨m, 0, none⟩)] 30)).alloc (.cells #[.int .i64 0] 43)) := ((Below.refl _ _).alloc (Nat.le_refl _) _).alloc (by simp) _
  have hb1 : Below w.heap.size w (((w.alloc (.cells #[.pointer (some ⟨m, 0, none⟩)] 30)).alloc (.cells #[.int .i64 0] 43)).alloc (.cells #[.int .i64 (t : Int)] 3)) := hb0.alloc (by simp; omega) _
  obtain ⟨a, c, rfl, kc⟩ := h.kc'
  have hsz := ok.sz
  have hmo := ok.most
  have hbd := ok.bd hon
  have k3 := (kc.later hb0).c3
  rw [hon] at k3
  have HT := hidden (kTop_any m a c s _ (kc.later hb0) (by omega))
  have k1 := (kc.later hb1).c1
  have k2 := (kc.later hb1).c2
  have HN := hidden (knum_any a s.bs.length c (t - 4) s.bs _ (kc.later hb1.drew).rd ok.okb (by omega) (by omega))
  rw [show ((t - 4 : Nat) : Int) = (t : Int) - 4 by omega] at HN
  have hmt : (t : Int).tmod 4 = 0 := by rw [Int.tmod_eq_emod_of_nonneg (by omega)]; omega
  have hwm : IntKind.u32.wrap 0 = 0 := by rw [IntKind.wrap_u32]; omega
  have hwt : IntKind.i64.wrap (t : Int) = (t : Int) := by rw [IntKind.wrap_i64]; omega
  have hw4 : IntKind.i64.wrap ((t : Int) - 4) = (t : Int) - 4 := by rw [IntKind.wrap_i64]; omega
  have hgl := nu_lt ok.okb (t - 4)
  have d1 : ¬ (t : Int) < 16 := by omega
  have d2 : ¬ (t : Int) > (s.bs.length : Int) := by omega
  have d3 : ¬ s.bs.length < t := by omega
  have HK := hidden h
  have HKC := hidden kc
  have HOK := hidden ok
  have HBD := hidden hbd
  clear h kc ok hbd
  generalize hg : nu s.bs (t - 4) = g at *
  have hwg : IntKind.i64.wrap (g : Int) = (g : Int) := by rw [IntKind.wrap_i64]; omega
  refine (callsIn_wide (n := 3)).1 (callsIn_of_wp_marks Try.func74 rfl trivial ?_ rfl)
  simp only [Try.ntmps74, List.size_toArray, List.length_cons, List.length_nil, Nat.reduceAdd, Nat.reduceSub, Array.replicate_succ, Array.replicate_zero, List.push_toArray, List.append_toArray, List.nil_append, List.cons_append]
  gi_wp2_with (first | (gi_at_call 10; refine (callsIn_wide.2 HT.out).mono ?_; rintro e w1 ⟨rfl, rfl⟩))
  have x0 : (((w.alloc (.cells #[.pointer (some ⟨m, 0, none⟩)] 30)).alloc (.cells #[.int .i64 0] 43)).alloc (.cells #[.int .i64 (t : Int)] 3)).heap[w.heap.size]? = some (.cells #[.pointer (some ⟨m, 0, none⟩)] 30 (0, 0)) := (Below.heap_alloc _ _ _ (by simp; omega)).trans ((Below.heap_alloc _ _ _ (by simp)).trans (heap_alloc_new w _))
  have x1 : (((w.alloc (.cells #[.pointer (some ⟨m, 0, none⟩)] 30)).alloc (.cells #[.int .i64 0] 43)).alloc (.cells #[.int .i64 (t : Int)] 3)).heap[w.heap.size + 1]? = some (.cells #[.int .i64 0] 43 (0, 0)) := (Below.heap_alloc _ _ _ (by simp)).trans (by have := heap_alloc_new (w.alloc (.cells #[.pointer (some ⟨m, 0, none⟩)] 30)) (.cells #[.int .i64 0] 43); rwa [World.size_alloc] at this)
  have x2 : (((w.alloc (.cells #[.pointer (some ⟨m, 0, none⟩)] 30)).alloc (.cells #[.int .i64 0] 43)).alloc (.cells #[.int .i64 (t : Int)] 3)).heap[w.heap.size + 1 + 1]? = some (.cells #[.int .i64 t] 3 (0, 0)) := by have := heap_alloc_new ((w.alloc (.cells #[.pointer (some ⟨m, 0, none⟩)] 30)).alloc (.cells #[.int .i64 0] 43)) (.cells #[.int .i64 (t : Int)] 3); rwa [World.size_alloc, World.size_alloc] at this
  have hs3 : (((w.alloc (.cells #[.pointer (some ⟨m, 0, none⟩)] 30)).alloc (.cells #[.int .i64 0] 43)).alloc (.cells #[.int .i64 (t : Int)] 3)).heap.size = w.heap.size + 1 + 1 + 1 := by simp
  have HB1 := hidden hb1
  clear hb0 hb1 HT k3
  generalize ((w.alloc (.cells #[.pointer (some ⟨m, 0, none⟩)] 30)).alloc (.cells #[.int .i64 0] 43)).alloc (.cells #[.int .i64 (t : Int)] 3) = W3 at *
  have y0 := cell_of_one x0
  have y2 := cell_of_one x2
  have hb4 : Below W3.heap.size W3 (W3.alloc (.cells #[.int .i64 0] 3)) := (Below.refl _ _).alloc (Nat.le_refl _) _
  have z0 := cellLater hb4 y0
  have z1 := cellLater hb4 k1
  have z2 := cellLater hb4 y2
  have HNz : Hid (Calls Try.prog 54 #[.slice a s.bs.length c, .int .i64 ((t : Int) - 4)] (W3.alloc (.cells #[.int .i64 0] 3)).drew fun e w' => e = .returned (.int .u32 g) ∧ w' = (W3.alloc (.cells #[.int .i64 0] 3)).drew) := by
    have := knum_any a s.bs.length c (t - 4) s.bs _ ((HKC.out.later HB1.out).later hb4.drew).rd HOK.out.okb (by omega) (by omega)
    rw [show ((t - 4 : Nat) : Int) = (t : Int) - 4 by omega, hg] at this
    exact this
  have X0 := hidden x0
  have X1 := hidden x1
  have X2 := hidden x2
  have K2 := hidden k2
  have HG := hidden hg
  clear hb4 x0 x1 x2 k2 hg
  obtain ⟨Q6, hQ6⟩ : ∃ Q : Exit → Act → World → Prop, Hid (Q = fun e a' W' => e = .normal ∧ a' = { tmps := #[.pointer (some ⟨m, 0, none⟩), .int .u32 t, .pointer (some ⟨w.heap.size, 0, none⟩), undef, .pointer (some ⟨w.heap.size + 1, 0, none⟩), .pointer (some ⟨w.heap.size + 1 + 1, 0, none⟩), .pointer (some ⟨w.heap.size + 1 + 1 + 1, 0, none⟩), undef, undef, .bool false, .pointer (some ⟨m, 0, none⟩), .bool false, .bool false, .pointer (some ⟨m, 0, none⟩), .pointer (some ⟨m, 0, none⟩), .pointer (some ⟨m, 3, none⟩), .bool true, .bool false, .bool false, .int .u32 t, .int .u32 0, .bool false, .bool false, .bool false, .int .u32 t, .bool false, .bool false, .bool false, .int .u32 t, .pointer (some ⟨m, 0, none⟩), .int .u32 s.bs.length, .bool false, .bool false, .int .u32 t, .int .i64 t, .pointer (some ⟨m, 0, none⟩), .pointer (some ⟨m, 0, none⟩), .pointer (some ⟨m, 1, none⟩), .slice a s.bs.length c, .int .i64 t, .int .i64 ((t : Int) - 4), .int .u32 g, .int .i64 g, undef, undef, undef, undef, undef, undef, undef, undef, undef, undef, undef, undef, undef, undef, undef, undef, undef, undef, undef, undef, undef, undef, undef, undef, undef, undef, undef, undef, undef, undef, undef, undef, undef, undef, undef, undef, undef, undef, undef, undef, undef, undef, undef], defers := [] } ∧ W' = (W3.alloc (.cells #[.int .i64 (g : Int)] 3)).drew) := ⟨_, rfl⟩
  refine wpIn_mono (Q := NoPanic Q6) ?_ ?_
  · refine wpIn_wide.2 ?_
    go_region_held3 (fun w' => w'.cell? ⟨w.heap.size, 0, none⟩ = some (.pointer (some ⟨m, 0, none⟩)) ∧ w'.cell? ⟨m, 1, none⟩ = some (.slice a s.bs.length c) ∧ w'.cell? ⟨w.heap.size + 1 + 1, 0, none⟩ = some (.int .i64 t)) (first | assumption | exact ⟨by assumption, by assumption, by assumption⟩ | go_keep) (first | (go_at_call 54; (with_reducible refine HN.out.mono ?_); rintro e w1 ⟨rfl, rfl⟩) | (go_at_call 54; (with_reducible refine HNz.out.mono ?_); rintro e w1 ⟨rfl, rfl⟩) | fail)
    all_goals (show Q6 _ _ _; rw [hQ6.out]; exact ⟨rfl, rfl, rfl⟩)
  intro e6 a6 w6 h6
  replace h6 := NoPanic.imp _ _ _ h6
  rw [hQ6.out] at h6
  obtain ⟨rfl, rfl, rfl⟩ := h6
  clear hQ6
  have b4 : Below W3.heap.size W3 (W3.alloc (.cells #[.int .i64 (g : Int)] 3)).drew := ((Below.refl _ _).alloc (Nat.le_refl _) _).drew
  have n3 : (W3.alloc (.cells #[.int .i64 (g : Int)] 3)).drew.heap[w.heap.size + 1 + 1 + 1]? = some (.cells #[.int .i64 g] 3 (0, 0)) := by
    have := heap_alloc_new W3 (.cells #[.int .i64 (g : Int)] 3)
    rwa [hs3] at this
  have s4 : (W3.alloc (.cells #[.int .i64 (g : Int)] 3)).drew.heap.size = w.heap.size + 1 + 1 + 1 + 1 := by simp [hs3]
  generalize (W3.alloc (.cells #[.int .i64 (g : Int)] 3)).drew = W4 at *
  have hb4 : Below w.heap.size w W4 := HB1.out.trans (b4.mono HB1.out.size)
  have u0 := cellLater b4 y0
  have u1 := cellLater b4 k1
  have u2 := cellLater b4 K2.out
  have HTN := hidden (fun f => thr_new w W4.drew m a s.bs.length c t g f hb4.drew s4 (heap_later b4 X0.out) (heap_later b4 X1.out) (heap_later b4 X2.out) n3)
  have HCH := hidden (kchain_any a s.bs.length c s.fr W4.drew)
  rw [show W4.drew.heap.size = w.heap.size + 1 + 1 + 1 + 1 from s4] at HCH
  clear b4 n3 hb4 y0 y2 z0 z1 z2 HN HNz X0 X1 X2 K2 k1 HB1 hs3
  gi_wp2
  obtain ⟨Q7, hQ7⟩ : ∃ Q : Exit → Act → World → Prop, Hid (Q = fun e a' W' => e = .normal ∧ a' = { tmps := #[.pointer (some ⟨m, 0, none⟩), .int .u32 t, .pointer (some ⟨w.heap.size, 0, none⟩), undef, .pointer (some ⟨w.heap.size + 1, 0, none⟩), .pointer (some ⟨w.heap.size + 1 + 1, 0, none⟩), .pointer (some ⟨w.heap.size + 1 + 1 + 1, 0, none⟩), undef, undef, .bool false, .pointer (some ⟨m, 0, none⟩), .bool false, .bool false, .pointer (some ⟨m, 0, none⟩), .pointer (some ⟨m, 0, none⟩), .pointer (some ⟨m, 3, none⟩), .bool true, .bool false, .bool false, .int .u32 t, .int .u32 0, .bool false, .bool false, .bool false, .int .u32 t, .bool false, .bool false, .bool false, .int .u32 t, .pointer (some ⟨m, 0, none⟩), .int .u32 s.bs.length, .bool false, .bool false, .int .u32 t, .int .i64 t, .pointer (some ⟨m, 0, none⟩), .pointer (some ⟨m, 0, none⟩), .pointer (some ⟨m, 1, none⟩), .slice a s.bs.length c, .int .i64 t, .int .i64 ((t : Int) - 4), .int .u32 g, .int .i64 g, .pointer (some ⟨m, 0, none⟩), .pointer (some ⟨m, 0, none⟩), .pointer (some ⟨m, 1, none⟩), .slice a s.bs.length c, .pointer (some ⟨m, 0, none⟩), .pointer (some ⟨m, 0, none⟩), .pointer (some ⟨m, 2, none⟩), .int .i64 s.fr, .func (.func 91) #[] #[.pointer (some ⟨w.heap.size + 1 + 1 + 1 + 1, 0, none⟩), .pointer (some ⟨w.heap.size + 1 + 1 + 1 + 1 + 1, 0, none⟩)], undef, undef, undef, undef, undef, undef, undef, undef, undef, undef, undef, undef, undef, undef, undef, undef, undef, undef, undef, undef, undef, undef, undef, undef, undef, undef, undef, undef, undef, undef, undef, undef, undef, undef], defers := [] } ∧ W' = ((W4.drew.alloc (.cells #[.slice a s.bs.length c] 24)).alloc (.cells #[.int .i64 (s.fr : Int)] 3))) := ⟨_, rfl⟩
  refine wpIn_mono (Q := NoPanic Q7) ?_ ?_
  · refine wpIn_wide.2 ?_
    go_region_held3 (fun w' => w'.cell? ⟨w.heap.size, 0, none⟩ = some (.pointer (some ⟨m, 0, none⟩)) ∧ w'.cell? ⟨m, 1, none⟩ = some (.slice a s.bs.length c) ∧ w'.cell? ⟨m, 2, none⟩ = some (.int .i64 s.fr)) (first | assumption | exact ⟨by assumption, by assumption, by assumption⟩ | go_keep) (first | (go_at_call 88; (with_reducible refine HCH.out.mono ?_); rintro e w1 ⟨rfl, rfl⟩) | fail)
    all_goals (show Q7 _ _ _; rw [hQ7.out]; exact ⟨rfl, rfl, rfl⟩)
  intro e7 a7 w7 h7
  replace h7 := NoPanic.imp _ _ _ h7
  rw [hQ7.out] at h7
  obtain ⟨rfl, rfl, rfl⟩ := h7
  clear hQ7
  have hk := HTN.out s.fr
  have hsX : ((W4.drew.alloc (.cells #[.slice a s.bs.length c] 24)).alloc (.cells #[.int .i64 (s.fr : Int)] 3)).heap.size = w.heap.size + 1 + 1 + 1 + 1 + 1 + 1 := by simp [s4]
  generalize (W4.drew.alloc (.cells #[.slice a s.bs.length c] 24)).alloc (.cells #[.int .i64 (s.fr : Int)] 3) = WX at *
  clear HTN HCH u0 u1 u2 s4
  gi_wp2
  refine range_law (α := Nat × Nat) rfl (by omega) 91 #[.pointer (some ⟨w.heap.size + 1 + 1 + 1 + 1, 0, none⟩), .pointer (some ⟨w.heap.size + 1 + 1 + 1 + 1 + 1, 0, none⟩)] rfl trivial (enters_of Try.func91 (by kernel_rfl) rfl) (fun x => #[.int .i64 x.1, .int .i64 x.2]) (fun _ => rfl)
    (fun x W => Thr w m a s.bs.length c t g x.1 W ∧ ThrP s t g x) (fun x W => Thr w m a s.bs.length c t g x.1 W ∧ ThrP s t g x ∧ ¬ thrC s.bs t g x.1 x.2) (ThrX w B m (.slice a s.bs.length c) s t g) (fun W => ∃ e, Thr w m a s.bs.length c t g 0 W ∧ ThrP s t g (0, e) ∧ ¬ thrC s.bs t g 0 e)
    (fun x => { tmps := #[.pointer (some ⟨m, 0, none⟩), .int .u32 t, .pointer (some ⟨w.heap.size, 0, none⟩), undef, .pointer (some ⟨w.heap.size + 1, 0, none⟩), .pointer (some ⟨w.heap.size + 1 + 1, 0, none⟩), .pointer (some ⟨w.heap.size + 1 + 1 + 1, 0, none⟩), .int .i64 x.1, .int .i64 x.2, .bool false, .pointer (some ⟨m, 0, none⟩), .bool false, .bool false, .pointer (some ⟨m, 0, none⟩), .pointer (some ⟨m, 0, none⟩), .pointer (some ⟨m, 3, none⟩), .bool true, .bool false, .bool false, .int .u32 t, .int .u32 0, .bool false, .bool false, .bool false, .int .u32 t, .bool false, .bool false, .bool false, .int .u32 t, .pointer (some ⟨m, 0, none⟩), .int .u32 s.bs.length, .bool false, .bool false, .int .u32 t, .int .i64 t, .pointer (some ⟨m, 0, none⟩), .pointer (some ⟨m, 0, none⟩), .pointer (some ⟨m, 1, none⟩), .slice a s.bs.length c, .int .i64 t, .int .i64 ((t : Int) - 4), .int .u32 g, .int .i64 g, .pointer (some ⟨m, 0, none⟩), .pointer (some ⟨m, 0, none⟩), .pointer (some ⟨m, 1, none⟩), .slice a s.bs.length c, .pointer (some ⟨m, 0, none⟩), .pointer (some ⟨m, 0, none⟩), .pointer (some ⟨m, 2, none⟩), .int .i64 s.fr, .func (.func 91) #[] #[.pointer (some ⟨w.heap.size + 1 + 1 + 1 + 1, 0, none⟩), .pointer (some ⟨w.heap.size + 1 + 1 + 1 + 1 + 1, 0, none⟩)], .int .i64 x.1, .int .i64 x.2, undef, undef, undef, undef, undef, undef, undef, undef, undef, undef, undef, undef, undef, undef, undef, undef, undef, undef, undef, undef, undef, undef, undef, undef, undef, undef, undef, undef, undef, undef, undef, undef], defers := [] })
    (fun x => putOk_and (thr_put (by omega)) (putOk_pure _)) (fun x => putOk_and (thr_put (by omega)) (putOk_pure _)) (thrx_put (by omega)) (fun W l o o' p1 p2 p3 ⟨e, p4, p5⟩ => ⟨e, thr_put (by omega) W l o o' p1 p2 p3 p4, p5⟩) ?iter ?assign ?body ?done ?stop
  case iter =>
    intro l Rd Dn W hbW hRd hY hr
    exact kchain1_in 2 (by omega) l (w.heap.size + 1 + 1 + 1 + 1) (w.heap.size + 1 + 1 + 1 + 1 + 1) a s.bs.length c s.bs HOK.out.okb (by omega) _ _ _ Rd Dn hRd hY (fun x W hj => hj.1.b5) (fun x W hj => ⟨hj.1.b5, hj.1.b4, (HKC.out.later hj.1.below).rd, fun h0 => thr_next HOK.out h0 hj⟩) W s.fr (hk.later hbW).b4 ⟨hk.later hbW, thr_first HOK.out hon⟩ hr
  case assign =>
    intro l x W K hK
    gi_wp2
    exact hK
  case body =>
    rintro l ⟨f, e⟩ W ⟨hs, u, hc, p1, p2, p3⟩
    dsimp only at hs hc p1 p2 p3 ⊢
    have hbd := hc.fr.bd
    have c0 := cell_of_one hs.b0
    have c2 := cell_of_one hs.b2
    have c3 := cell_of_one hs.b3
    have c1 := (HKC.out.later hs.below).c1
    have HF : Hid (∀ n, Calls Try.prog 84 #[.slice a s.bs.length c, .int .i64 f] (W.drewN n) fun e w' => e = .returned (.int .i64 (f + nu s.bs f : Nat)) ∧ w' = W.drewN n) := fun n => kfend_any a _ c f s.bs _ ((HKC.out.later hs.below).later (Dr.below ⟨n, rfl⟩)).rd HOK.out.okb (by omega) (by omega)
    have hw16 : IntKind.i64.wrap ((t : Int) - 16) = (t : Int) - 16 := by rw [IntKind.wrap_i64]; omega
    have HS := hidden hs
    have HP : Hid (ThrP s t g (f, e)) := ⟨u, hc, p1, p2, p3⟩
    have HGO : Hid (∀ W', Below W.heap.size W W' → ¬ thrC s.bs t g f e → KeepsOthers W W' ∧ Thr w m a s.bs.length c t g f W' ∧ ThrP s t g (f, e) ∧ ¬ thrC s.bs t g f e) := fun W' hb hn => ⟨keeps_below hb, HS.out.later hb, HP.out, hn⟩
    clear hs hk hbd
    by_cases hfg : f = g
    · subst hfg
      have q1 : ((f : Int) == (f : Int)) = true := by simp
      have HFN : Hid (thrC s.bs t f f e ↔ f + nu s.bs f + 16 ≤ t ∧ t ≤ e) := ⟨fun h => h.2, fun h => ⟨rfl, h⟩⟩
      have hNl := nu_lt HOK.out.okb f
      generalize nu s.bs f = N at *
      have e1 : ((f + N : Nat) : Int) = (f : Int) + (N : Int) := by omega
      rw [e1] at HF
      clear e1
      by_cases k1 : f + N + 16 ≤ t
      · have v1 : decide ((f : Int) + (N : Int) ≤ (t : Int) - 16) = true := by simp; omega
        have v2 : ((f : Int) + (N : Int) ≤ (t : Int) - 16) = True := by simp; omega
        by_cases k2 : t ≤ e
        · have v3 : decide ((t : Int) ≤ (e : Int)) = true := by simp; omega
          have v4 : ((t : Int) ≤ (e : Int)) = True := by simp; omega
          have HT : Hid (thrB s.bs t f s.bs.length s.fr s.bs.length = true) := p3.2 (by
            by_cases h0 : f = 0
            · subst h0
              exact (thr_zero s.bs t 0 e).2 (HFN.out.2 ⟨k1, k2⟩)
            · exact (thr_step s.bs t f f e u hc h0).2 (.inl (HFN.out.2 ⟨k1, k2⟩)))
          clear p3 hc v2 v4
          gi_wp2
          refine quiet_round (F := Fence.wide) l rfl (by kernel_rfl) (by kernel_rfl) (by kernel_rfl) ?_
          repeat (gi_big_quiet_step (first | (gi_at_call 84; refine CallsIn.quiet_of_same (callsIn_wide.2 (HF.out _)))))
          refine wpQuietIn_nil ?_
          intro _ hw'
          obtain ⟨nq, hw''⟩ := hw'
          subst hw''
          gi_wp2
          have hb5 : Below W.heap.size W (W.drewN nq) := Dr.below ⟨nq, rfl⟩
          have HS5 := hidden (HS.out.later hb5)
          have HKO := hidden (keeps_below hb5)
          clear hb5 c0 c1 c2 c3 HF HGO HS HP
          generalize W.drewN nq = W5 at *
          have hk5 := HK.out.later HS5.out.below
          obtain ⟨_, y1, y2, y3, yf⟩ := hk5.cells
          have yf1 := yf 1
          have yf2 := yf 2
          have y0 := cell_of_one HS5.out.b0
          have yt := cell_of_one HS5.out.b2
          obtain ⟨g0, rfl⟩ := KC.isSome (w := W5) (m := m) hk5 (by omega)
          have hcc : s.bs.length ≤ c := (own_reads hk5.row).2.1
          have htc : t ≤ c := by omega
          obtain ⟨kA, kB⟩ := (hk5.later (w' := W5.drew) (Dr.below ⟨1, rfl⟩)).cut t htL
          obtain ⟨kC, kD⟩ := kA.set2 f
          have z2 := kA.cells.2.2.1
          have zf2 := kA.cells.2.2.2.2 2
          have hmw : m < w.heap.size := HK.out.lt
          have hA0 : ∀ (X : World) (i : Nat) (u : Value) (b : Nat), w.heap.size ≤ b → (X.setCell ⟨m, i, none⟩ u).heap[b]? = X.heap[b]? := fun X i u b hb => heap_setCell_other _ _ _ _ (show b ≠ m by omega)
          have HSW : Hid ((fun w' : World => w'.cell? ⟨w.heap.size, 0, none⟩ = some (.pointer (some ⟨m, 0, none⟩)) ∧ w'.cell? ⟨w.heap.size + 1 + 1, 0, none⟩ = some (.int .i64 t)) W5.drew) := ⟨y0, yt⟩
          have HSX : Hid ((fun w' : World => w'.cell? ⟨w.heap.size, 0, none⟩ = some (.pointer (some ⟨m, 0, none⟩)) ∧ w'.cell? ⟨w.heap.size + 1 + 1, 0, none⟩ = some (.int .i64 t)) (W5.drew.setCell ⟨m, 1, none⟩ (.slice (some ⟨g0, 0, none⟩) t c))) := ⟨by show World.cell? _ _ = _; rw [World.cell?_of_block (hA0 _ _ _ _ (Nat.le_refl _))]; exact y0, by show World.cell? _ _ = _; rw [World.cell?_of_block (hA0 _ _ _ _ (by simp only; omega))]; exact yt⟩
          have HSY : Hid ((fun w' : World => w'.cell? ⟨w.heap.size, 0, none⟩ = some (.pointer (some ⟨m, 0, none⟩)) ∧ w'.cell? ⟨w.heap.size + 1 + 1, 0, none⟩ = some (.int .i64 t)) ((W5.drew.setCell ⟨m, 1, none⟩ (.slice (some ⟨g0, 0, none⟩) t c)).setCell ⟨m, 2, none⟩ (.int .i64 f))) := ⟨by show World.cell? _ _ = _; rw [World.cell?_of_block (hA0 _ _ _ _ (Nat.le_refl _))]; exact HSX.out.1, by show World.cell? _ _ = _; rw [World.cell?_of_block (hA0 _ _ _ _ (by simp only; omega))]; exact HSX.out.2⟩
          have HFIN : Hid (LeftK B w ((W5.drew.setCell ⟨m, 1, none⟩ (.slice (some ⟨g0, 0, none⟩) t c)).setCell ⟨m, 2, none⟩ (.int .i64 f)) m (.slice (some ⟨g0, 0, none⟩) s.bs.length c) ⟨s.size, s.bs.take t, f, true⟩) := by
            refine ⟨_, ?_, (((Fm.same HS5.out.below).trans (Fm.same (Dr.below (w := W5) (w1 := W5.drew) ⟨1, rfl⟩))).trans kB).trans kD⟩
            have : ({ s with bs := s.bs.take t, fr := f } : Ks) = ⟨s.size, s.bs.take t, f, true⟩ := by simp [hon]
            rw [← this]
            exact kC
          have HRB : Hid (∃ z, ((W5.drew.setCell ⟨m, 1, none⟩ (.slice (some ⟨g0, 0, none⟩) t c)).setCell ⟨m, 2, none⟩ (.int .i64 f)).heap[w.heap.size + 1]? = some (.cells #[.int .i64 z] 43 (0, 0))) := by
            obtain ⟨z, hz⟩ := HS5.out.b1
            exact ⟨z, by rw [hA0 _ _ _ _ (by omega), hA0 _ _ _ _ (by omega)]; exact hz⟩
          have HKO2 : Hid (KeepsOthers W ((W5.drew.setCell ⟨m, 1, none⟩ (.slice (some ⟨g0, 0, none⟩) t c)).setCell ⟨m, 2, none⟩ (.int .i64 f))) := ((HKO.out.trans (KeepsOthers.drew _)).trans (KeepsOthers.setCell _ _ _)).trans (KeepsOthers.setCell _ _ _)
          clear yf kA kB kC kD hk5 hA0
          refine held_round2 (fun w' : World => w'.cell? ⟨w.heap.size, 0, none⟩ = some (.pointer (some ⟨m, 0, none⟩)) ∧ w'.cell? ⟨w.heap.size + 1 + 1, 0, none⟩ = some (.int .i64 t)) (A := ?A) (W7 := ((W5.drew.setCell ⟨m, 1, none⟩ (.slice (some ⟨g0, 0, none⟩) t c)).setCell ⟨m, 2, none⟩ (.int .i64 f))) l (by kernel_rfl) (by kernel_rfl) ?walk ?fin
          case walk =>
            refine held_take 0 (.pointer (some ⟨m, 0, none⟩)) rfl (by kernel_rfl) (by kernel_rfl) (by kernel_rfl) (by kernel_rfl) (fun w' hS' => by have q0 := hS'.1; have q2 := hS'.2; clear hS'; simp [execOp, Act.eval, Act.put, go_sem, q0, q2, htc]) HSW.out ?_
            refine held_take 1 (.pointer (some ⟨m, 0, none⟩)) rfl (by kernel_rfl) (by kernel_rfl) (by kernel_rfl) (by kernel_rfl) (fun w' hS' => by have q0 := hS'.1; have q2 := hS'.2; clear hS'; simp [execOp, Act.eval, Act.put, go_sem, q0, q2, htc]) HSW.out ?_
            refine held_take 2 (.pointer (some ⟨m, 0, none⟩)) rfl (by kernel_rfl) (by kernel_rfl) (by kernel_rfl) (by kernel_rfl) (fun w' hS' => by have q0 := hS'.1; have q2 := hS'.2; clear hS'; simp [execOp, Act.eval, Act.put, go_sem, q0, q2, htc]) HSW.out ?_
            refine held_take 3 (.pointer (some ⟨m, 0, none⟩)) rfl (by kernel_rfl) (by kernel_rfl) (by kernel_rfl) (by kernel_rfl) (fun w' hS' => by have q0 := hS'.1; have q2 := hS'.2; clear hS'; simp [execOp, Act.eval, Act.put, go_sem, q0, q2, htc]) HSW.out ?_
            refine held_take 4 (.pointer (some ⟨m, 1, none⟩)) rfl (by kernel_rfl) (by kernel_rfl) (by kernel_rfl) (by kernel_rfl) (fun w' hS' => by have q0 := hS'.1; have q2 := hS'.2; clear hS'; simp [execOp, Act.eval, Act.put, go_sem, q0, q2, htc]) HSW.out ?_
            refine held_take 6 (.int .i64 t) rfl (by kernel_rfl) (by kernel_rfl) (by kernel_rfl) (by kernel_rfl) (fun w' hS' => by have q0 := hS'.1; have q2 := hS'.2; clear hS'; simp [execOp, Act.eval, Act.put, go_sem, q0, q2, htc]) HSW.out ?_
            refine held_take 8 (.int .i64 f) rfl (by kernel_rfl) (by kernel_rfl) (by kernel_rfl) (by kernel_rfl) (fun w' hS' => by have q0 := hS'.1; have q2 := hS'.2; clear hS'; simp [execOp, Act.eval, Act.put, go_sem, q0, q2, htc]) HSW.out ?_
            refine held_val 5 (.slice (some ⟨g0, 0, none⟩) s.bs.length c) rfl (by kernel_rfl) (by kernel_rfl) (by simp [execOp, Act.eval, Act.put, go_sem, y1]) HSW.out ?_
            refine held_take 7 (.slice (some ⟨g0, 0, none⟩) t c) rfl (by kernel_rfl) (by kernel_rfl) (by kernel_rfl) (by kernel_rfl) (fun w' hS' => by have q0 := hS'.1; have q2 := hS'.2; clear hS'; simp [execOp, Act.eval, Act.put, go_sem, q0, q2, htc]) HSW.out ?_
            refine held_take 9 (.pointer (some ⟨m, 0, none⟩)) rfl (by kernel_rfl) (by kernel_rfl) (by kernel_rfl) (by kernel_rfl) (fun w' hS' => by have q0 := hS'.1; have q2 := hS'.2; clear hS'; simp [execOp, Act.eval, Act.put, go_sem, q0, q2, htc]) HSW.out ?_
            refine held_take 10 (.pointer (some ⟨m, 1, none⟩)) rfl (by kernel_rfl) (by kernel_rfl) (by kernel_rfl) (by kernel_rfl) (fun w' hS' => by have q0 := hS'.1; have q2 := hS'.2; clear hS'; simp [execOp, Act.eval, Act.put, go_sem, q0, q2, htc]) HSW.out ?_
            refine held_one 11 (w' := W5.drew.setCell ⟨m, 1, none⟩ (.slice (some ⟨g0, 0, none⟩) t c)) rfl (by kernel_rfl) (by kernel_rfl) (by simp [execOp, Act.eval, Act.put, go_sem, y1, yf1]) HSX.out ?_
            refine held_take 12 (.pointer (some ⟨m, 0, none⟩)) rfl (by kernel_rfl) (by kernel_rfl) (by kernel_rfl) (by kernel_rfl) (fun w' hS' => by have q0 := hS'.1; have q2 := hS'.2; clear hS'; simp [execOp, Act.eval, Act.put, go_sem, q0, q2, htc]) HSX.out ?_
            refine held_take 13 (.pointer (some ⟨m, 2, none⟩)) rfl (by kernel_rfl) (by kernel_rfl) (by kernel_rfl) (by kernel_rfl) (fun w' hS' => by have q0 := hS'.1; have q2 := hS'.2; clear hS'; simp [execOp, Act.eval, Act.put, go_sem, q0, q2, htc]) HSX.out ?_
            refine held_one 14 (w' := (W5.drew.setCell ⟨m, 1, none⟩ (.slice (some ⟨g0, 0, none⟩) t c)).setCell ⟨m, 2, none⟩ (.int .i64 f)) rfl (by kernel_rfl) (by kernel_rfl) (by simp [execOp, Act.eval, Act.put, go_sem, y2, yf2]) HSY.out ?_
            exact held_end (by kernel_rfl) _
          case fin =>
            obtain ⟨z, hz⟩ := HRB.out
            generalize ((W5.drew.setCell ⟨m, 1, none⟩ (.slice (some ⟨g0, 0, none⟩) t c)).setCell ⟨m, 2, none⟩ (.int .i64 f)) = W7 at *
            have hz1 := cell_of_one hz
            have hz2 := free_of_one hz
            simp only [Act.put, List.setIfInBounds_toArray, List.set_cons_succ, List.set_cons_zero]
            gi_wp2
            exact ⟨HKO2.out.trans (KeepsOthers.setCell _ _ _), ⟨leftK_set (by omega) hz HFIN.out, one_setCell hz⟩, HT.out⟩
        · have v3 : decide ((t : Int) ≤ (e : Int)) = false := by simp; omega
          have HN := hidden (fun h : thrC s.bs t f f e => k2 h.2.2)
          clear p3 hc v2
          gi_wp2
          refine quiet_round (F := Fence.wide) l rfl (by kernel_rfl) (by kernel_rfl) (by kernel_rfl) ?_
          repeat (gi_big_quiet_step (first | (gi_at_call 84; refine CallsIn.quiet_of_same (callsIn_wide.2 (HF.out _)))))
          refine wpQuietIn_nil ?_
          intro _ hw'
          obtain ⟨nq, hw''⟩ := hw'
          subst hw''
          gi_wp2
          exact HGO.out _ (Dr.below ⟨nq, rfl⟩) HN.out
      · have v1 : decide ((f : Int) + (N : Int) ≤ (t : Int) - 16) = false := by simp; omega
        have HN := hidden (fun h : thrC s.bs t f f e => k1 (HFN.out.1 h).1)
        clear p3 hc
        gi_wp2
        refine quiet_round (F := Fence.wide) l rfl (by kernel_rfl) (by kernel_rfl) (by kernel_rfl) ?_
        repeat (gi_big_quiet_step (first | (gi_at_call 84; refine CallsIn.quiet_of_same (callsIn_wide.2 (HF.out _)))))
        refine wpQuietIn_nil ?_
        intro _ hw'
        obtain ⟨nq, hw''⟩ := hw'
        subst hw''
        gi_wp2
        exact HGO.out _ (Dr.below ⟨nq, rfl⟩) HN.out
    · have HN := hidden (fun h : thrC s.bs t g f e => hfg h.1)
      have q1 : ((f : Int) == (g : Int)) = false := by simp; omega
      have q2 : ¬ (f : Int) = (g : Int) := by omega
      have q3 : decide ((f : Int) = (g : Int)) = false := by simp; omega
      gi_wp2
      refine quiet_round (F := Fence.wide) l rfl (by kernel_rfl) (by kernel_rfl) (by kernel_rfl) ?_
      repeat (gi_big_quiet_step (first | (gi_at_call 84; refine CallsIn.quiet_of_same (callsIn_wide.2 (HF.out _)))))
      refine wpQuietIn_nil ?_
      intro _ hw'
      obtain ⟨nq, hw''⟩ := hw'
      subst hw''
      gi_wp2
      exact HGO.out _ (Dr.below ⟨nq, rfl⟩) HN.out
  case done =>
    rintro D W hD ⟨e, hs, ⟨u, _, _, _, p3⟩, hn⟩ hK
    have hf : ¬ thrB s.bs t (nu s.bs (t - 4)) s.bs.length s.fr s.bs.length = true := fun h => by rw [HG.out] at h; exact hn ((thr_zero s.bs t g e).1 (p3.1 h))
    have eE : thrE s t = 104 := by unfold thrE; rw [if_pos ⟨hon, h4, h16, htL⟩, if_neg hf]
    have eS : thrS s t = s := by unfold thrS; rw [eE]; rfl
    obtain ⟨z, hz⟩ := hs.b1
    have c2 := cell_of_one hz
    have f2 := free_of_one hz
    have HL := hidden (leftK_set (u := .int .i64 104) (by omega) hz (LeftK.same HK.out hs.below))
    clear hs p3 hn hk
    gi_wp2
    have hK' := (KeepsOthers.setCell W ⟨w.heap.size + 1, 0, none⟩ (.int .i64 104)).same D _ hK rfl
    refine ⟨by simp, .inl ⟨_, _, rfl, run_takeDeferred hK', ?_⟩⟩
    have hc5 := cell_kept (World.cell?_setCell_same' W ⟨w.heap.size + 1, 0, none⟩ (.int .i64 104) (by rw [c2]; rfl)) (grownBy_putObj' _ D (.deferred none)) (fun r e => by cases e; exact ⟨_, hK', rfl⟩)
    refine ⟨.int .i64 104, ?_, by first | rfl | (rw [eE]; rfl), by first | exact leftK_put (Nat.le_refl _) _ D _ _ (by omega) hK' rfl HL.out | (rw [eS]; exact leftK_put (Nat.le_refl _) _ D _ _ (by omega) hK' rfl HL.out)⟩
    simp [results, Try.results74, go_sem, hc5]
  case stop =>
    rintro D W hD ⟨⟨hL, hz⟩, hn⟩ hK
    have eE : thrE s t = 0 := by unfold thrE; rw [if_pos ⟨hon, h4, h16, htL⟩, HG.out, if_pos hn]
    have eS : thrS s t = ⟨s.size, s.bs.take t, g, true⟩ := by unfold thrS; rw [if_pos eE, HG.out]
    have c2 := cell_of_one hz
    have HL := hidden hL
    clear hL hn hk
    gi_wp2
    refine ⟨by simp, .inl ⟨_, _, rfl, run_takeDeferred hK, ?_⟩⟩
    have hc5 := cell_kept c2 (grownBy_putObj' _ D (.deferred none)) (fun r e => by cases e; exact ⟨_, hK, rfl⟩)
    refine ⟨.int .i64 0, ?_, by first | rfl | (rw [eE]; rfl), by first | exact leftK_put (Nat.le_refl _) _ D _ _ (by omega) hK rfl HL.out | (rw [eS]; exact leftK_put (Nat.le_refl _) _ D _ _ (by omega) hK rfl HL.out)⟩
    simp [results, Try.results74, go_sem, hc5]
theorem kThrow_any (B m : Nat) (v : Value) (s : Ks) (w : World) (h : KAt B w m v s) (ok : OkK s) (t : Nat) (ht : t < 4294967296) :
    Calls Try.prog 74 #[.pointer (some ⟨m, 0, none⟩), .int .u32 t] w fun e w' => e = .returned (.int .i64 (thrE s t)) ∧ LeftK B w w' m v (thrS s t) := by
  by_cases hg : s.on = true ∧ t % 4 = 0 ∧ 16 ≤ t ∧ t ≤ s.bs.length
  · exact kThrow_good B m v s w h ok t ht hg.1 hg.2.1 hg.2.2.1 hg.2.2.2
  · have eE : thrE s t = 104 := by unfold thrE; rw [if_neg hg]
    have eS : thrS s t = s := by unfold thrS; rw [eE]; rfl
    rw [eE, eS]
    exact kThrow_bad B m v s w h ok t ht hg
end Go.Proofs.Ythhkennomnmjkaa
