/- The document's stack: contract of its Values. -/
import Derived.Test.YthhkennomnmjkaaT10d
namespace Go.Proofs.Ythhkennomnmjkaa
open Go.RowKit
set_option maxHeartbeats 1000000
set_option maxRecDepth 100000
set_option linter.unusedVariables false

theorem info32 : (Try.prog.info? 23).map (fun i => (i.zero, i.size, i.bytes)) = some (some (.int .u32 0), 1, 4) := by kernel_rfl
def u32V (xs : List Nat) : List Value := xs.map (fun x : Nat => Value.int .u32 (x : Int))
theorem u32V_snoc (xs : List Nat) (x : Nat) : u32V xs ++ [.int .u32 (x : Int)] = u32V (xs ++ [x]) := by simp [u32V]
/-- the current frame's values, the lowest first -/
def valsK (s : Ks) : List Nat := (List.range (cnt s)).map (fun i => nu s.bs (endK s + 4 * i))
def valsL (s : Ks) : List Nat := if s.on = true then valsK s else []
theorem valsK_len (s : Ks) : (valsK s).length = cnt s := by simp [valsK]
theorem valsK_snoc (s : Ks) (k : Nat) (h : k < cnt s) : (valsK s).take (k + 1) = (valsK s).take k ++ [nu s.bs (endK s + 4 * k)] := by
  rw [List.take_succ_eq_append_getElem (by rw [valsK_len]; exact h)]
  simp [valsK]
theorem shape32 {B : Nat} {w : World} {v : Value} {ql x : Nat} {qre : List Nat} (h : w.ownsRow B 23 1 v (ql + 1) (u32V qre ++ [.int .u32 (x : Int)])) : ∃ a3 c3, v = .slice a3 (ql + 1) c3 ∧ Hid (w.ownsRow B 23 1 (.slice a3 (ql + 1) c3) (ql + 1) (u32V (qre ++ [x]))) := by
  rw [u32V_snoc] at h
  rcases h.2 with ⟨_, h2⟩ | ⟨g, cap, cur, h1, _⟩
  · omega
  · exact ⟨_, _, h1, by rw [← h1]; exact h⟩
theorem dvals_off (m : Nat) (a : Option Addr) (c : Nat) (s : Ks) (w : World) (h : DC w m a c s) (hon : s.on = false) :
    Calls Try.prog 57 #[.pointer (some ⟨m, 0, none⟩)] w fun e w' => e = .returned (.slice none 0 0) ∧ w' = w := by
  have c3 := h.c3
  rw [hon] at c3
  clear h
  go_enter Try.func57, Try.ntmps57
  go_wp2
  go_ret
  exact ⟨rfl, rfl⟩
theorem dvals_on (m : Nat) (a : Option Addr) (c : Nat) (s : Ks) (w : World) (h : DC w m a c s) (ok : OkK s) (hon : s.on = true) :
    Calls Try.prog 57 #[.pointer (some ⟨m, 0, none⟩)] w fun e w' => ∃ a' c', e = .returned (.slice a' (cnt s) c') ∧ w'.ownsRow w.heap.size 23 1 (.slice a' (cnt s) c') (cnt s) (u32V (valsK s)) ∧ Below w.heap.size w w' := by
  obtain ⟨i0, hi, hz0, hz1, hz2⟩ := info_parts info32
  obtain ⟨b1, b2, b3, b4, b5, b6⟩ := ok.bd hon
  have hsz := ok.sz
  have hmo := ok.most
  have HA : Hid (∀ wx p, Below w.heap.size w wx → p + 4 ≤ s.bs.length → Calls Try.prog 67 #[.pointer (some ⟨m, 0, none⟩), .int .i64 p] wx fun e w' => e = .returned (.int .i64 (nu s.bs p)) ∧ w' = wx) := fun wx p hb hp => dat_any m p a _ c s.bs wx (h.later hb).c0 (h.later hb).rd ok.okb hp (by omega)
  have HA0 : Hid (∀ n, Calls Try.prog 67 #[.pointer (some ⟨m, 0, none⟩), .int .i64 s.fr] (w.drewN n) fun e w' => e = .returned (.int .i64 (nu s.bs s.fr)) ∧ w' = w.drewN n) := fun n => HA.out _ s.fr (Dr.below ⟨n, rfl⟩) (by omega)
  have HC : Hid (∀ wx, Below w.heap.size w wx → wx.cell? ⟨m, 0, none⟩ = some (.slice a s.bs.length c)) := fun wx hb => (h.later hb).c0
  have HNL : Hid (∀ p, nu s.bs p < 4294967296) := fun p => nu_lt ok.okb p
  have hfe : endK s = s.fr + nu s.bs s.fr := rfl
  have hnl := HNL.out s.fr
  have HSN := hidden (valsK_snoc s)
  have HVL := hidden (valsK_len s)
  have c2 := h.c2
  have c3 := h.c3
  rw [hon] at c3
  clear h ok hon
  have hw0 : IntKind.i64.wrap ((s.fr : Int) + (nu s.bs s.fr : Int)) = (endK s : Int) := by rw [IntKind.wrap_i64]; omega
  clear hfe hnl b1 b2 b3 b4 b6
  generalize nu s.bs s.fr = N at *
  generalize s.fr = f at *
  generalize hLL : s.bs.length = L at *
  have HB5 := hidden b5
  have hL5 : endK s ≤ L := by omega
  clear b5 hLL
  generalize hE : endK s = E at *
  generalize hC : cnt s = C at *
  clear hE hC
  go_enter Try.func57, Try.ntmps57
  go_wp2
  go_quiet (first | (go_at_call 67; exact Calls.quiet_of_same (HA0.out _)))
  all_goals (try go_wp2)
  have hd0 : Below w.heap.size w (w.drewN nq) := Dr.below ⟨nq, rfl⟩
  generalize w.drewN nq = wd at *
  go_loopw [3, 4] (fun v i wr => ∃ (k ql : Nat) (a' : Option Addr) (c' : Nat), k ≤ C ∧ i = .int .i64 ((E + 4 * k : Nat) : Int) ∧ v = .slice a' ql c' ∧ Hid (ql = k) ∧ ql ≤ 65536 ∧ Hid (wr.ownsRow w.heap.size 23 1 (.slice a' ql c') ql (u32V ((valsK s).take k))) ∧ Hid (Below w.heap.size w wr)) (fun _ i _ => L + 4 - (intOf i).toNat)
  case atStart => exact ⟨0, 0, none, 0, by omega, by simp, rfl, hidden rfl, by omega, World.ownsRow_nil _ _ _ _, hd0⟩
  case round =>
    obtain ⟨k, ql, a', c', hk, rfl, rfl, HQ, hql, HO, HB⟩ := hrel
    have hc0 := HC.out _ HB.out
    have hb5 := HB5.out
    by_cases hlt : k < C
    · have d1 : ((E + 4 * k : Nat) : Int) < (L : Int) := by omega
      have HAT := hidden (HA.out wr (E + 4 * k) HB.out (by omega))
      have hnl := HNL.out (E + 4 * k)
      have HS1 := hidden (HSN.out k hlt)
      have hwp : IntKind.i64.wrap (((E + 4 * k : Nat) : Int) + 4) = ((E + 4 * k : Nat) : Int) + 4 := by rw [IntKind.wrap_i64]; omega
      have hep : ((E + 4 * (k + 1) : Nat) : Int) = ((E + 4 * k : Nat) : Int) + 4 := by omega
      have HEP := hidden hep
      clear hb5 hep
      generalize nu s.bs (E + 4 * k) = X at *
      generalize hPP : ((E + 4 * k : Nat) : Int) = P at *
      have hwx : IntKind.u32.wrap (X : Int) = (X : Int) := by rw [IntKind.wrap_u32]; omega
      have HBS := hidden HB.out.size
      have HOA : Hid ((wr.alloc (.cells #[.int .u32 (X : Int)] 23)).ownsRow w.heap.size 23 1 (.slice a' ql c') ql (u32V ((valsK s).take k))) := HO.out.alloc _
      have HCL : Hid (∀ (w2 : World), (wr.alloc (.cells #[.int .u32 (X : Int)] 23)).grownBy w2 (Value.slice a' ql c').ownBlock → Below w.heap.size w w2) := fun w2 hg => (HB.out.alloc HB.out.size _).grown hg (by have := HB.out.size; simp; omega) (fun jj e => (HO.out.lt jj e).1)
      have HNW : Hid (∀ jj uu, [Value.int .u32 (X : Int)][jj]? = some uu → (wr.alloc (.cells #[.int .u32 (X : Int)] 23)).cell? ((⟨wr.heap.size, 0, none⟩ : Addr).add jj) = some uu) := fun jj uu hjj => by
        have hh := heap_alloc_new wr (.cells #[.int .u32 (X : Int)] 23)
        rw [plain_add]
        unfold World.cell?
        simp only
        rw [hh]
        simpa using hjj
      have hone : ∀ u ∈ [Value.int .u32 (X : Int)], u.oneCell' = true := by
        intro u hu
        simp at hu
        subst hu; rfl
      have HONE := hidden hone
      have HPP := hidden hPP
      clear hPP hone
      go_wp2_with (first | (go_at_call 67; refine HAT.out.mono ?_; rintro e w1 ⟨rfl, e1⟩; rw [e1]; clear e1) | (at_builtin; refine wpList_append_at rfl _ _ 25 rfl w.heap.size 23 i0 (.int .u32 0) 1 4 Try.underlying25 hi hz0 hz1 hz2 rfl (by decide) (.slice a' ql c') ql _ rfl HOA.out ⟨wr.heap.size, 0, none⟩ 1 1 [.int .u32 (X : Int)] rfl rfl HNW.out HONE.out (by unfold maxLen; omega) (by omega) (by have := HBS.out; simp; omega) (by omega) ?_; intro v' w2 hown' hgrow hat; have HBB := hidden (HCL.out w2 hgrow); obtain ⟨a3, c3, e3, HO3⟩ := shape32 hown'; subst e3; clear hown' hgrow hat))
      go_roundw
      case rel => exact ⟨k + 1, ql + 1, a3, c3, by omega, int_eq (by have := HEP.out; omega), rfl, by have := HQ.out; show ql + 1 = k + 1; omega, by have := HQ.out; have := HB5.out; omega, by rw [HS1.out]; exact HO3, HBB⟩
      case measure => have h1 := HPP.out; have h2 := HB5.out; simp [intOf]; omega
    · obtain rfl : k = C := by omega
      have d1 : ¬ ((E + 4 * k : Nat) : Int) < (L : Int) := by omega
      rw [List.take_of_length_le (by rw [HVL.out]; exact Nat.le_refl _)] at HO
      have hq := HQ.out
      subst hq
      generalize ((E + 4 * ql : Nat) : Int) = P at *
      clear hb5
      go_wp2
      go_ret
      exact ⟨a', c', rfl, HO.out, HB.out⟩
theorem dvals_any (m : Nat) (a : Option Addr) (c : Nat) (s : Ks) (w : World) (h : DC w m a c s) (ok : OkK s) :
    Calls Try.prog 57 #[.pointer (some ⟨m, 0, none⟩)] w fun e w' => ∃ a' c', e = .returned (.slice a' (valsL s).length c') ∧ w'.ownsRow w.heap.size 23 1 (.slice a' (valsL s).length c') (valsL s).length (u32V (valsL s)) ∧ Below w.heap.size w w' := by
  unfold valsL
  cases hon : s.on with
  | false =>
    rw [if_neg (by simp)]
    refine (dvals_off m a c s w h hon).mono ?_
    rintro e w' ⟨rfl, rfl⟩
    exact ⟨none, 0, rfl, World.ownsRow_nil _ _ _ _, Below.refl _ _⟩
  | true =>
    rw [if_pos rfl, valsK_len]
    exact dvals_on m a c s w h ok hon
end Go.Proofs.Ythhkennomnmjkaa
