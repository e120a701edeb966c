/- Layer 12: a table and a packed text laid in a memory: contract of the laws' laid. -/
import Derived.Test.YtbifolpahmeaeaaR12j
import Derived.Test.YtbifolpahmeaeaaB12s
import Derived.Test.YtbifolpahmeaeaaH7r
import Derived.Deep.Cut
import Derived.Deep.RegionHeld3
namespace Go.Proofs.Ytbifolpahmeaeaa
open Go.RowKit
set_option maxHeartbeats 1000000
set_option maxRecDepth 100000
set_option linter.unusedVariables false

theorem ok_app2 {a b : List Int} (h : OkB a) (h2 : OkB b) : OkB (a ++ b) := fun c hc => by
  rcases List.mem_append.1 hc with q | q
  · exact h c q
  · exact h2 c q
theorem ok_one (x : Int) (h0 : 0 ≤ x) (h1 : x ≤ 255) : OkB [x] := fun c hc => by simp at hc; subst hc; omega
theorem ok_put (x n : Int) : OkB (putL x n) := fun c hc => putL_bd _ _ c hc
theorem ok_nd : ∀ (f T : Nat) (l : List Nat), OkB (ndL f T l)
  | 0, _, _ => ok_one 1 (by omega) (by omega)
  | f + 1, T, l => by
    unfold ndL
    split
    · exact ok_one 1 (by omega) (by omega)
    · split
      · split
        · rename_i h
          exact ok_app2 (ok_one 2 (by omega) (by omega)) (ok_one _ (by omega) (by omega))
        · exact ok_app2 (ok_one 4 (by omega) (by omega)) (ok_put _ _)
      · exact ok_app2 (ok_one 0 (by omega) (by omega)) (ok_app2 (ok_put _ _) (ok_app2 (ok_put _ _) (ok_app2 (ok_nd f _ _) (ok_nd f _ _))))
theorem ok_tb (T : Nat) (A : List Nat) : OkB (tbL T A) := ok_app2 (ok_put _ _) (ok_app2 (ok_put _ _) (ok_app2 (ok_put _ _) (ok_app2 (ok_one 0 (by omega) (by omega)) (ok_app2 (ok_put _ _) (ok_app2 (ok_put _ _) (ok_app2 (ok_one 1 (by omega) (by omega)) (ok_nd _ _ _)))))))
theorem okb_step {s : List Int × Nat} {bs : List Nat} (h : BtRow s bs) (ho : OkB s.1) (b : Nat) (hb : b ≤ 1) : OkB (stepS s b).1 := by
  unfold stepS stepB
  simp only
  split
  · exact ok_app2 ho (ok_one _ (by omega) (by omega))
  · rename_i h0
    obtain ⟨ys, z, e, z0, z1⟩ := h.last h0
    have hn := h.nx
    rw [e] at ho ⊢
    rw [List.dropLast_concat, List.getLastD_concat]
    refine ok_app2 (fun c hc => ho c (List.mem_append_left _ hc)) (ok_one _ ?_ ?_)
    all_goals
      have hm : s.2 ≤ 7 := by omega
      generalize s.2 = m at *
      rcases (show m = 1 ∨ m = 2 ∨ m = 3 ∨ m = 4 ∨ m = 5 ∨ m = 6 ∨ m = 7 by omega) with rfl | rfl | rfl | rfl | rfl | rfl | rfl <;>
      (simp only [Int.reducePow] at *; omega)
theorem okb_fold : ∀ (cs : List Nat) (s : List Int × Nat) (bs : List Nat), BtRow s bs → OkB s.1 → (∀ b ∈ cs, b ≤ 1) → OkB (cs.foldl stepS s).1
  | [], _, _, _, ho, _ => ho
  | c :: cs, s, bs, h, ho, hc => by
    have h1 := hc c (by simp)
    exact okb_fold cs (stepS s c) _ (h.step c h1) (okb_step h ho c h1) (fun b hb => hc b (by simp [hb]))
theorem okb_pkS (A l : List Nat) : ∀ k, k ≤ l.length → OkB (pkS A l k).1
  | 0, _ => by intro c hc; simp [pkS] at hc
  | k + 1, h => by
    have := okb_fold (chB A (l.getD k 0)) _ _ (pkS_row A l k (by omega)) (okb_pkS A l k (by omega)) (fun b hb => by
      rcases List.mem_cons.1 hb with rfl | hb
      · omega
      · exact way_bits _ _ _ b hb)
    simpa [pkS, chB] using this
theorem ok_pk (A l : List Nat) : OkB (pkL A l) := by
  unfold pkL
  refine ok_app2 (ok_one 225 (by omega) (by omega)) ?_
  exact okb_step (pkS_row A l l.length (Nat.le_refl _)) (okb_pkS A l l.length (Nat.le_refl _)) 0 (by omega)

theorem tb_any {w w' : World} {T : Nat} {A : List Nat} {r : Ending} (h : TbRet w T A r w') (hA : A.length ≤ 300) : ∃ sa m c X, r = .returned (.tuple #[.slice sa m c, .int .i64 (plE A : Nat)]) ∧ Reads w' sa m c X ∧ (plE A = 0 → X = tbL T A) ∧ m ≤ 20000 ∧ OkB X ∧ Below w.heap.size w w' := by
  rcases h with ⟨hb, ⟨h0, e⟩ | ⟨h0, g, c, e, hr⟩⟩
  · exact ⟨none, 0, 0, [], e, ⟨rfl, Nat.le_refl _, .inl ⟨rfl, rfl, rfl⟩⟩, fun q => absurd q h0, by omega, (fun c hc => by simp at hc), hb⟩
  · refine ⟨_, _, c, tbL T A, by rw [h0]; exact e, hr, fun _ => rfl, ?_, ok_tb T A, hb⟩
    have := nd_len (rtA T) A (by omega)
    unfold tbL rtL
    simp [putL]
    omega
theorem pk_any {w w' : World} {A l : List Nat} {r : Ending} (h : PkRet w A l r w') (hA : A.length ≤ 300) (hl : l.length ≤ 300) : ∃ sa m c X, r = .returned (.tuple #[.slice sa m c, .int .i64 (pkE A l : Nat)]) ∧ Reads w' sa m c X ∧ (pkE A l = 0 → X = pkL A l) ∧ m ≤ 200000 ∧ OkB X ∧ Below w.heap.size w w' := by
  rcases h with ⟨hb, ⟨h0, e⟩ | ⟨h0, g, c, e, _, hr⟩⟩
  · exact ⟨none, 0, 0, [], e, ⟨rfl, Nat.le_refl _, .inl ⟨rfl, rfl, rfl⟩⟩, fun q => absurd q h0, by omega, (fun c hc => by simp at hc), hb⟩
  · refine ⟨_, _, c, pkL A l, by rw [h0]; exact e, hr, fun _ => rfl, ?_, ok_pk A l, hb⟩
    have h1 := stepS_len (pkS A l l.length) 0
    have h2 := pkS_len A l l.length
    have h3 : l.length * (A.length + 1) ≤ 300 * 301 := Nat.mul_le_mul hl (by omega)
    omega
theorem plE_le (A : List Nat) : plE A ≤ 10 := by unfold plE; split <;> (try split) <;> omega
theorem pkE_le (A l : List Nat) : pkE A l ≤ 10 := by
  unfold pkE
  have := plE_le A
  split
  · exact this
  · split <;> omega
theorem wpList_appN {w0 w : World} {ops : Array Oper} {rest : List Oper} {o : Oper} {a : Act} {Q : Exit → Act → World → Prop} (hgd : o.guard = none) (s x : Operand)
    (ho : o.op = .call { callee := .builtin .append, args := #[s, x], argTypes := #[25, 25] })
    (g n c m c0 : Nat) (sa : Option Addr) (zs ds : List Int) (hs : a.eval s = .slice (some ⟨g, 0, none⟩) n c) (hx : a.eval x = .slice sa m c0) (hown : w.ownsRow w0.heap.size 5 1 (.slice (some ⟨g, 0, none⟩) n c) n (bytesV zs)) (hr : Reads w sa m c0 ds) (h63 : n + m ≤ 4294967296) (hb : Below w0.heap.size w0 w)
    (N : Nat) (hN : n + m = N) (Z : List Int) (hZ : zs ++ ds = Z)
    (h : ∀ g' c' w', Hid (w'.ownsRow w0.heap.size 5 1 (.slice (some ⟨g', 0, none⟩) N c') N (bytesV Z)) → Hid (Below w0.heap.size w0 w') → wpList Try.prog ops Q rest (a.put o.dst (.slice (some ⟨g', 0, none⟩) N c')) w') : wpList Try.prog ops Q (o :: rest) a w := by
  subst hN hZ
  refine wpList_appR hgd s x ho w0.heap.size g n c m c0 sa zs ds hs hx hown hr h63 hb.size ?_
  intro g' c' w' h1 h2
  exact h g' c' w' h1 (hb.trans (h2.out.below hb.size (fun k e => (hown.lt k e).1)))
def LdRet (w : World) (T : Nat) (zs : List Int) (A : List Nat) (ys : List Int) (l : List Nat) (xs : List Int) (r : Ending) (w' : World) : Prop :=
  Below w.heap.size w w' ∧ ∃ (g N cc P : Nat) (X Y : List Int) (b : Bool), r = .returned (.tuple #[.slice (some ⟨g, 0, none⟩) N cc, .int .u32 (T : Nat), .int .u32 (P : Nat), .bool b]) ∧ w'.ownsRow w.heap.size 5 1 (.slice (some ⟨g, 0, none⟩) N cc) N (bytesV (([7] ++ zs ++ X ++ ys) ++ Y ++ xs)) ∧ ([7] ++ zs ++ X ++ ys).length = P ∧ N ≤ 500000 ∧ OkB X ∧ OkB Y ∧ (b = true → plE A = 0 ∧ pkE A l = 0 ∧ X = tbL T A ∧ Y = pkL A l)
set_option maxHeartbeats 8000000 in
theorem laid_any (a : Option Addr) (n c : Nat) (zs : List Int) (al : Option Addr) (nl lc : Nat) (A : List Nat) (a2 : Option Addr) (n2 c2 : Nat) (ys : List Int) (bl : Option Addr) (ml mc : Nat) (l : List Nat) (a3 : Option Addr) (n3 c3 : Nat) (xs : List Int) (w : World)
    (hr : Reads w a n c zs) (hv : VRow w al nl A) (hs : Reads w a2 n2 c2 ys) (hv2 : VRow w bl ml l) (ht : Reads w a3 n3 c3 xs) (hn : n + n2 + n3 ≤ 16384) (hnl : nl ≤ 300) (hml : ml ≤ 300) (hlc : nl ≤ lc) (hlm : lc ≤ 9223372036854775807) (T : Nat) (hT : 1 + n = T) :
    Calls Try.prog 14 #[.slice a n c, .slice al nl lc, .slice a2 n2 c2, .slice bl ml mc, .slice a3 n3 c3] w (LdRet w T zs A ys l xs) := by
  have hzl : zs.length = n := hr.1
  have hyl : ys.length = n2 := hs.1
  have hAl := hv.ln
  have hll := hv2.ln
  have HTT := hidden hT
  have HZL := hidden hzl
  have HYL := hidden hyl
  have HAL := hidden (show A.length ≤ 300 by omega)
  have HLL := hidden (show l.length ≤ 300 by omega)
  have HR := hidden hr
  have HS := hidden hs
  have HT := hidden ht
  have HV := hidden hv
  have HV2 := hidden hv2
  have hTb : T ≤ 20000 := by omega
  have f1 : IntKind.u32.wrap (T : Int) = (T : Int) := by rw [IntKind.wrap_u32]; omega
  have HE1 := hidden (plE_le A)
  have HE2 := hidden (pkE_le A l)
  have HTBL : Hid (∀ w1, Below w.heap.size w w1 → Calls Try.prog 7 #[.int .u32 T, .slice al nl lc] w1 (TbRet w1 T A)) := hidden (fun w1 hb => ttable_all T al nl lc A w1 (hv.later hb) hlc hlm (by omega) (by omega))
  have HPKK : Hid (∀ w1, Below w.heap.size w w1 → Calls Try.prog 9 #[.slice al nl lc, .slice bl ml mc] w1 (PkRet w1 A l)) := hidden (fun w1 hb => tpack_all al bl nl ml lc mc A l w1 (hv.later hb) (hv2.later hb) (by omega) (by omega))
  have HTBR : Hid (∀ (w1 : World) r w', TbRet w1 T A r w' → ∃ sa m c X, r = .returned (.tuple #[.slice sa m c, .int .i64 (plE A : Nat)]) ∧ Reads w' sa m c X ∧ (plE A = 0 → X = tbL T A) ∧ m ≤ 20000 ∧ OkB X ∧ Below w1.heap.size w1 w') := hidden (fun w1 r w' hh => tb_any hh HAL.out)
  have HPKR : Hid (∀ (w1 : World) r w', PkRet w1 A l r w' → ∃ sa m c X, r = .returned (.tuple #[.slice sa m c, .int .i64 (pkE A l : Nat)]) ∧ Reads w' sa m c X ∧ (pkE A l = 0 → X = pkL A l) ∧ m ≤ 200000 ∧ OkB X ∧ Below w1.heap.size w1 w') := hidden (fun w1 r w' hh => pk_any hh HAL.out HLL.out)
  have HFIN : Hid (∀ (g N cc P : Nat) (X Y : List Int) (b : Bool) (w' : World), Below w.heap.size w w' → w'.ownsRow w.heap.size 5 1 (.slice (some ⟨g, 0, none⟩) N cc) N (bytesV (([7] ++ zs ++ X ++ ys) ++ Y ++ xs)) → ([7] ++ zs ++ X ++ ys).length = P → N ≤ 500000 → OkB X → OkB Y → (b = true → plE A = 0 ∧ pkE A l = 0 ∧ X = tbL T A ∧ Y = pkL A l) → LdRet w T zs A ys l xs (.returned (.tuple #[.slice (some ⟨g, 0, none⟩) N cc, .int .u32 (T : Nat), .int .u32 (P : Nat), .bool b])) w') := hidden (fun g N cc P X Y b w' h1 h2 h3 h4 h5 h6 h7 => ⟨h1, g, N, cc, P, X, Y, b, rfl, h2, h3, h4, h5, h6, h7⟩)
  generalize hPQ : LdRet w T zs A ys l xs = PQ at *
  obtain ⟨E1, hE1⟩ : ∃ E1, plE A = E1 := ⟨_, rfl⟩
  obtain ⟨E2, hE2⟩ : ∃ E2, pkE A l = E2 := ⟨_, rfl⟩
  obtain ⟨BB, hBB⟩ : ∃ BB, ((E1 : Int) + (E2 : Int) == 0) = BB := ⟨_, rfl⟩
  have HBB : Hid (BB = true → E1 = 0 ∧ E2 = 0) := hidden (fun q => by rw [q] at hBB; simp at hBB; omega)
  rw [hE1] at HE1 HTBR HFIN
  rw [hE2] at HE2 HPKR HFIN
  have f2 : IntKind.i64.wrap ((E1 : Int) + (E2 : Int)) = (E1 : Int) + (E2 : Int) := by have := HE1.out; have := HE2.out; rw [IntKind.wrap_i64]; omega
  have HA1 := hidden (owns_new w w.heap.size [7] (Nat.le_refl _) (by decide))
  have HB1 := hidden (al_below w (.cells #[.int .u8 7] 5))
  have HR1 := hidden (HR.out.later HB1.out)
  clear hr hs ht hv hv2 hzl hyl hAl hll hPQ hE1 hE2 hT HE1 HE2 HAL HLL
  go_enter Try.func14, Try.ntmps14
  go_upto_region 2 with (at_builtin; refine wpList_appN (w0 := w) rfl (.tmp 21) (.tmp 22) rfl w.heap.size 1 1 n c a [7] zs rfl rfl HA1.out HR1.out (by omega) HB1.out T HTT.out _ rfl ?_; intro g1 c1 w1 HO1 HBa)
  clear HA1 HB1 HR1
  go_upto_region 4 with (first | (go_at_call 7; refine (HTBL.out _ HBa.out).mono ?_; intro r2 w2 hh; obtain ⟨sa, m, cm, X, rfl, hrx, HX, hm, hox, hb2⟩ := HTBR.out _ _ _ hh; have HRX := hidden hrx; have HOX := hidden hox; have HXE := hidden HX; have HB2 := hidden (HBa.out.trans (hb2.mono HBa.out.size)); have HO2 := hidden (own_later HO1.out hb2); clear hh hrx hox HX hb2 HO1) | fail)
  clear HTBL HTBR
  obtain ⟨N2, hN2⟩ : ∃ N2, T + m = N2 := ⟨_, rfl⟩
  obtain ⟨P, hP⟩ : ∃ P, N2 + n2 = P := ⟨_, rfl⟩
  have HN2 := hidden hN2
  have HP := hidden hP
  have f3 : IntKind.u32.wrap (P : Int) = (P : Int) := by rw [IntKind.wrap_u32]; omega
  have hPb : P ≤ 60000 := by omega
  have hN2b : N2 ≤ 40000 := by omega
  clear hN2 hP
  go_upto_region 6 with (first
    | (at_builtin; refine wpList_appN (w0 := w) rfl (.tmp 33) (.tmp 34) rfl g1 T c1 m cm sa ([7] ++ zs) X rfl rfl HO2.out HRX.out (by omega) HB2.out N2 HN2.out _ rfl ?_; intro g3 c3' w3 HO3 HB3; have HS3 := hidden (HS.out.later HB3.out))
    | (at_builtin; refine wpList_appN (w0 := w) rfl (.tmp 35) (.tmp 36) rfl g3 N2 c3' n2 c2 a2 ([7] ++ zs ++ X) ys rfl rfl HO3.out HS3.out (by omega) HB3.out P HP.out _ rfl ?_; intro g4 c4 w4 HO4 HB4)
    | fail)
  clear HO2 HO3 HB3 HS3 HB2 HRX HBa
  have HPL : Hid (([7] ++ zs ++ X ++ ys).length = P) := hidden (by
    have := HO4.out.1
    rw [Nat.mul_one] at this
    rw [← this]
    simp [bytesV])
  go_upto_region 7 with (first | (go_at_call 9; refine (HPKK.out _ HB4.out).mono ?_; intro r5 w5 hh; obtain ⟨sb, m5, cm5, Y, rfl, hry, HY, hm5, hoy, hb5⟩ := HPKR.out _ _ _ hh; have HRY := hidden hry; have HOY := hidden hoy; have HYE := hidden HY; have HB5 := hidden (HB4.out.trans (hb5.mono HB4.out.size)); have HO5 := hidden (own_later HO4.out hb5); clear hh hry hoy HY hb5 HO4) | fail)
  obtain ⟨N6, hN6⟩ : ∃ N6, P + m5 = N6 := ⟨_, rfl⟩
  obtain ⟨N7, hN7⟩ : ∃ N7, N6 + n3 = N7 := ⟨_, rfl⟩
  have HN6 := hidden hN6
  have HN7 := hidden hN7
  have hN6b : N6 ≤ 300000 := by omega
  have hN7b : N7 ≤ 500000 := by omega
  clear hN6 hN7 HB4 HPKK HPKR
  go_wp2_with (first
    | (at_builtin; refine wpList_appN (w0 := w) rfl (.tmp 47) (.tmp 48) rfl g4 P c4 m5 cm5 sb ([7] ++ zs ++ X ++ ys) Y rfl rfl HO5.out HRY.out (by omega) HB5.out N6 HN6.out _ rfl ?_; intro g6 c6 w6 HO6 HB6; have HT6 := hidden (HT.out.later HB6.out))
    | (at_builtin; refine wpList_appN (w0 := w) rfl (.tmp 49) (.tmp 50) rfl g6 N6 c6 n3 c3 a3 ([7] ++ zs ++ X ++ ys ++ Y) xs rfl rfl HO6.out HT6.out (by omega) HB6.out N7 HN7.out _ rfl ?_; intro g7 c7 w7 HO7 HB7)
    | (go_at_call 12; refine (num12 _ _).mono ?_; rintro x w9 ⟨rfl, e9⟩; rw [e9]; clear e9)
    | fail)
  exact bodyPost_ret (v := .tuple #[.slice (some ⟨g7, 0, none⟩) N7 c7, .int .u32 (T : Int), .int .u32 (P : Int), .bool BB]) (by simp [results, Try.results14, go_sem]) rfl (HFIN.out g7 N7 c7 P X Y BB w7 HB7.out HO7.out HPL.out hN7b HOX.out HOY.out (fun q => ⟨(HBB.out q).1, (HBB.out q).2, HXE.out (HBB.out q).1, HYE.out (HBB.out q).2⟩))
end Go.Proofs.Ytbifolpahmeaeaa
