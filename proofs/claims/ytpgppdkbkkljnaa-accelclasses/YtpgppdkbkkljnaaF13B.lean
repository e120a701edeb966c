/- Layer 13 (find): contract of alongRow. Layer 13 (find): contract of byHalves. Layer 13 (find): contracts of tell, Linear, Binary and Linked. -/
import Derived.Test.YtpgppdkbkkljnaaF13A
import Derived.Deep.Cut
import Derived.Deep.CutRange
namespace Go.Proofs.Ytpgppdkbkkljnaa
open Go.RowKit
set_option maxHeartbeats 1000000
set_option maxRecDepth 100000
set_option linter.unusedVariables false

/-- what a way answers -/
def rsV : Rs → Value
  | .bad e => .tuple #[.agg #[.int .u32 0, .int .u32 0], .int .i64 e]
  | .no => .tuple #[.agg #[.int .u32 4294967295, .int .u32 0], .int .i64 0]
  | .at_ i a => .tuple #[.agg #[.int .u32 i, .int .u32 a], .int .i64 0]
/-- a way's answer, and the hunt behind it -/
def WRet (w0 : World) (H m : Nat) (s : Sr) (kg kc hg hc : Nat) (key : List Int) (r : Rs) (e : Ending) (w' : World) : Prop := e = .returned (rsV r) ∧ ∃ held, HAt w0 w' H m s kg kc hg hc key held
theorem PBox.ne8 {w : World} {q : Nat} {i a : Int} (h : PBox w q i a) {base n : Nat} {v : Value} {xs : List Value} (ho : w.ownsRow base 5 1 v n xs) : v.ownBlock ≠ some q := by
  intro e
  rcases ho.2 with ⟨h1, _⟩ | ⟨g, cap, cur, h1, h2, h3, _⟩
  · rw [h1] at e; cases e
  · rw [h1] at e
    have : g = q := by simpa [Value.ownBlock] using e
    subst this
    unfold PBox at h
    rw [h3] at h
    simp at h
/-- a hunt, and a box for an answer beside it -/
structure HQ (w0 w : World) (H m : Nat) (s : Sr) (kg kc hg hc : Nat) (key held : List Int) (q : Nat) (i a : Int) : Prop where
  at_ : HAt w0 w H m s kg kc hg hc key held
  box : PBox w q i a
  base : w0.heap.size ≤ q
  ne : q ≠ H
theorem HQ.later {w0 w w' : World} {H m : Nat} {s : Sr} {kg kc hg hc : Nat} {key held : List Int} {q : Nat} {i a : Int} (h : HQ w0 w H m s kg kc hg hc key held q i a) (hb : Below w.heap.size w w') : HQ w0 w' H m s kg kc hg hc key held q i a :=
  ⟨h.at_.later hb, h.box.later hb, h.base, h.ne⟩
theorem HQ.new {w0 w w' : World} {H m : Nat} {s : Sr} {kg kc hg hc : Nat} {key held zs : List Int} {q : Nat} {i a : Int} (h : HQ w0 w H m s kg kc hg hc key held q i a) (f : Fm w w' (fun k => k = hg) (fun k => k = hg)) (A : HAt w0 w' H m s kg kc hg hc key zs) : HQ w0 w' H m s kg kc hg hc key zs q i a :=
  ⟨A, (f.block q h.box.lt (fun e => h.box.ne8 h.at_.held (by rw [e]; rfl))).trans h.box, h.base, h.ne⟩
theorem HQ.set {w0 w : World} {H m : Nat} {s : Sr} {kg kc hg hc : Nat} {key held : List Int} {q : Nat} {i a : Int} (h : HQ w0 w H m s kg kc hg hc key held q i a) (j b : Int) : HQ w0 ((w.setCell ⟨q, 0, none⟩ (.int .u32 j)).setCell ⟨q, 1, none⟩ (.int .u32 b)) H m s kg kc hg hc key held q j b :=
  ⟨(h.at_.frame (w' := w) q 0 _ h.base h.ne (fun e => h.box.ne8 h.at_.key (by rw [e]; rfl)) (fun e => h.box.ne8 h.at_.held (by rw [e]; rfl))).frame (w' := w) q 1 _ h.base h.ne (fun e => h.box.ne8 h.at_.key (by rw [e]; rfl)) (fun e => h.box.ne8 h.at_.held (by rw [e]; rfl)), h.box.set j b, h.base, h.ne⟩
theorem HQ.begin {w0 w : World} {H m : Nat} {s : Sr} {kg kc hg hc : Nat} {key held : List Int} (h : HAt w0 w H m s kg kc hg hc key held) (i a : Int) : HQ w0 (w.alloc (.cells #[.int .u32 i, .int .u32 a] 152)) H m s kg kc hg hc key held w.heap.size i a :=
  ⟨h.later ((Below.refl _ _).alloc (Nat.le_refl _) _), PBox.new w i a, h.below.size, by have := h.box.lt; omega⟩
theorem linF_step (bs : List Int) (s : Sr) (key : List Int) (c i : Nat) (h : i < c) : linF bs s key (c - i) i = (if kyE s bs.length (spA s i) ≠ 0 then .bad 90
    else if kyL s bs (spA s i) = key then .at_ i (spA s i)
    else if endZ s (kyL s bs (spA s i)) = true ∨ s.size = 0 then .no
    else linF bs s key (c - (i + 1)) (i + 1)) := by
  obtain ⟨f, hf⟩ : ∃ f, c - i = f + 1 := ⟨c - i - 1, by omega⟩
  rw [hf, show c - (i + 1) = f by omega]
  rfl
theorem kyL_len {s : Sr} {bs : List Int} {a : Nat} (h : kyE s bs.length a = 0) : (kyL s bs a).length = s.ks := tk_len h
end Go.Proofs.Ytpgppdkbkkljnaa
namespace Go.Proofs.Ytpgppdkbkkljnaa
open Go.RowKit
set_option maxHeartbeats 1000000
set_option maxRecDepth 100000
set_option linter.unusedVariables false

theorem binF_step (bs : List Int) (s : Sr) (key : List Int) (f lo hi : Nat) (h : lo < hi) (hf : hi - lo ≤ f) : binF bs s key f lo hi = (if kyE s bs.length (spA s (lo + (hi - lo) / 2)) ≠ 0 then .bad 90
       else if kyL s bs (spA s (lo + (hi - lo) / 2)) = key then .at_ (lo + (hi - lo) / 2) (spA s (lo + (hi - lo) / 2))
       else if cmpI (kyL s bs (spA s (lo + (hi - lo) / 2))) key < 0 then binF bs s key (f - 1) (lo + (hi - lo) / 2 + 1) hi
       else binF bs s key (f - 1) lo (lo + (hi - lo) / 2)) := by
  obtain ⟨e, rfl⟩ : ∃ e, f = e + 1 := ⟨f - 1, by omega⟩
  rw [Nat.add_sub_cancel]
  show (if lo < hi then _ else _) = _
  rw [if_pos h]
theorem binF_end (bs : List Int) (s : Sr) (key : List Int) (f lo hi : Nat) (h : ¬ lo < hi) : binF bs s key f lo hi = .no := by
  cases f with
  | zero => rfl
  | succ e => show (if lo < hi then _ else _) = _; rw [if_neg h]
theorem halves_any (w0 w : World) (bs : List Int) (H m : Nat) (s : Sr) (ok : s.ok) (kg kc hg hc : Nat) (key held : List Int) (M : MRd w0 m bs) (A : HAt w0 w H m s kg kc hg hc key held) (hk : s.ks ≤ 256) (hkl : key.length = s.ks) (hkb : OkB key) :
    Calls Try.prog 78 #[.pointer (some ⟨H, 0, none⟩)] w (WRet w0 H m s kg kc hg hc key (binF bs s key s.cnt 0 s.cnt)) := by
  have HQ0 := hidden (HQ.begin A 0 0)
  have HOK := hidden M.okb
  have HM := hidden M
  have HKB := hidden hkb
  have hcn := ok.cnt
  clear A M hkb
  obtain ⟨R, hR⟩ : ∃ R, binF bs s key s.cnt 0 s.cnt = R := ⟨_, rfl⟩
  rw [hR]
  have HR := hidden hR
  clear hR
  go_enter Try.func78, Try.ntmps78
  go_upto_region 1 with fail
  generalize w.heap.size = q at *
  generalize w.alloc (.cells #[.int .u32 0, .int .u32 0] 152) = w1 at *
  obtain ⟨c0, c1, c2, c3, c4, c5, c6, c7, c8, c9, c10⟩ := HQ0.out.at_.box.cells
  go_region
  go_upto_region 2 with fail
  clear c0 c1 c2 c3 c4 c5 c6 c7 c8 c9 c10
  go_loopw [4, 5] (fun i j w' => ∃ (lo hi f : Nat) (hd : List Int), hi ≤ s.cnt ∧ lo ≤ s.cnt ∧ hi - lo ≤ f ∧ i = .int .u32 lo ∧ j = .int .u32 hi ∧ Hid (binF bs s key f lo hi = R) ∧ Hid (HQ w0 w' H m s kg kc hg hc key hd q 0 0)) (fun i j _ => (intOf j).toNat - (intOf i).toNat)
  case atStart => exact ⟨0, s.cnt, s.cnt, held, by omega, by omega, by omega, rfl, rfl, HR, hidden (HQ0.out.later (Below.refl _ _).drew)⟩
  case round =>
    clear HQ0 HR
    obtain ⟨lo, hi, f, hd, hhi, hlo, hfu, rfl, rfl, hRk, hq⟩ := hrel
    by_cases hlt : lo < hi
    · have l1 : (lo : Int) < hi := by omega
      have HST := hidden ((binF_step bs s key f lo hi hlt hfu).symm.trans hRk.out)
      have e1 : IntKind.u32.wrap ((hi : Int) - lo) = ((hi - lo : Nat) : Int) := by rw [IntKind.wrap_u32]; omega
      have e2 : ((hi - lo : Nat) : Int).tdiv 2 = (((hi - lo) / 2 : Nat) : Int) := by rw [Int.tdiv_eq_ediv_of_nonneg (by omega)]; omega
      have e3 : IntKind.u32.wrap (((hi - lo) / 2 : Nat) : Int) = (((hi - lo) / 2 : Nat) : Int) := by rw [IntKind.wrap_u32]; omega
      have e4 : IntKind.u32.wrap ((lo : Int) + (((hi - lo) / 2 : Nat) : Int)) = ((lo + (hi - lo) / 2 : Nat) : Int) := by rw [IntKind.wrap_u32]; omega
      have hm1 : lo + (hi - lo) / 2 < hi := by omega
      have hm2 : lo ≤ lo + (hi - lo) / 2 := by omega
      have hf1 : hi - (lo + (hi - lo) / 2 + 1) ≤ f - 1 := by omega
      have hf2 : lo + (hi - lo) / 2 - lo ≤ f - 1 := by omega
      have HIN := hidden (inRow_any w0 wr H m s kg kc hg hc key hd hq.out.at_ (lo + (hi - lo) / 2) (by omega))
      clear hRk
      generalize hX : (hi - lo) / 2 = X at *
      generalize hU : hi - lo = U at *
      clear hX hU
      generalize hMI : lo + X = mi at *
      clear hMI
      obtain ⟨Y, hY⟩ : ∃ Y, spA s mi = Y := ⟨_, rfl⟩
      have hYl : Y < 4294967296 := by rw [← hY]; exact wr32_lt _
      rw [hY] at HST HIN
      clear hY
      go_upto_region 4 with (go_at_call 86; refine HIN.out.mono ?_; rintro e w2 ⟨rfl, hb2⟩)
      have hba : Below w2.heap.size w2 (w2.alloc (.cells #[.int .u32 (mi : Int), .int .u32 (Y : Int)] 152)) := (Below.refl _ _).alloc (Nat.le_refl _) _
      have HQ3 := hidden ((hq.out.later hb2).later hba)
      have HP3 := hidden (PBox.new w2 (mi : Int) (Y : Int))
      clear hb2 hba hq HIN
      generalize w2.alloc (.cells #[.int .u32 (mi : Int), .int .u32 (Y : Int)] 152) = w3 at *
      generalize w2.heap.size = p at *
      obtain ⟨p0, p1, pf⟩ := HP3.out.cells
      have HLK := hidden (look_any w0 w3 bs H m s ok kg kc hg hc key hd HM.out HQ3.out.at_ hk Y hYl)
      go_wp2_with fail
      refine HLK.out.mono ?_
      rintro e w4 ⟨hfm, hd4, hA4, hcase⟩
      have HQ4 := hidden (HQ3.out.new hfm hA4)
      have HP4 : Hid (PBox w4 p mi Y) := hidden ((hfm.block p HP3.out.lt (fun e => HP3.out.ne8 HQ3.out.at_.held (by rw [e]; rfl))).trans HP3.out)
      clear hfm hA4 p0 p1 pf HP3 HQ3 HLK
      obtain ⟨p0, p1, pf⟩ := HP4.out.cells
      obtain ⟨q0, q1, qf⟩ := HQ4.out.box.cells
      have qf0 := qf 0
      have qf1 := qf 1
      rcases hcase with ⟨hne, rfl⟩ | ⟨he, hhd, rfl⟩
      · have HR : Hid (R = .bad 90) := hidden (by rw [← HST.out, if_pos hne])
        clear hne HST
        go_wp2
        have HS := hidden (HQ4.out.set 0 0)
        generalize (w4.setCell ⟨q, 0, none⟩ (.int .u32 0)).setCell ⟨q, 1, none⟩ (.int .u32 0) = W at *
        obtain ⟨r0, r1, _⟩ := HS.out.box.cells
        have hR := HR.out
        subst hR
        refine bodyPost_ret (v := rsV (.bad 90)) (by simp [results, Try.results78, go_sem, r0, r1, rsV]) rfl ⟨rfl, _, HS.out.at_⟩
      · have hcz := cmpI_zero (kyL s bs Y) key (seg_ok HOK.out _ _) HKB.out (by rw [kyL_len he, hkl])
        have HKE := hidden he
        generalize hC : cmpI (kyL s bs Y) key = C at *
        clear hC he hhd
        by_cases hc0 : C = 0
        · have HR : Hid (R = .at_ mi Y) := hidden (by rw [← HST.out, if_neg (by rw [HKE.out]; simp), if_pos (hcz.1 hc0)])
          subst hc0
          clear hcz HST
          go_wp2
          have HS := hidden (HQ4.out.set (mi : Int) (Y : Int))
          generalize (w4.setCell ⟨q, 0, none⟩ (.int .u32 (mi : Int))).setCell ⟨q, 1, none⟩ (.int .u32 (Y : Int)) = W at *
          obtain ⟨r0, r1, _⟩ := HS.out.box.cells
          have hR := HR.out
          subst hR
          refine bodyPost_ret (v := rsV (.at_ mi Y)) (by simp [results, Try.results78, go_sem, r0, r1, rsV]) rfl ⟨rfl, _, HS.out.at_⟩
        · have hcb : (C == 0) = false := by simpa using hc0
          have HNK : Hid (¬ kyL s bs Y = key) := hidden (fun e => hc0 (hcz.2 e))
          have hw1 : IntKind.u32.wrap ((mi : Int) + 1) = ((mi + 1 : Nat) : Int) := by rw [IntKind.wrap_u32]; omega
          by_cases hcn0 : C < 0
          · have HR : Hid (binF bs s key (f - 1) (mi + 1) hi = R) := hidden (by rw [← HST.out, if_neg (by rw [HKE.out]; simp), if_neg HNK.out, if_pos hcn0])
            clear hcz HST hc0
            go_wp2
            go_roundw
            case rel => exact ⟨mi + 1, hi, f - 1, hd4, by omega, by omega, hf1, rfl, rfl, HR, HQ4⟩
            case measure => simp [intOf]; omega
          · have HR : Hid (binF bs s key (f - 1) lo mi = R) := hidden (by rw [← HST.out, if_neg (by rw [HKE.out]; simp), if_neg HNK.out, if_neg hcn0])
            clear hcz HST hc0
            go_wp2
            go_roundw
            case rel => exact ⟨lo, mi, f - 1, hd4, by omega, by omega, hf2, rfl, rfl, HR, HQ4⟩
            case measure => simp [intOf]; omega
    · have hge : ¬ ((lo : Int) < hi) := by omega
      have HR : Hid (R = .no) := hidden (by rw [← hRk.out, binF_end _ _ _ _ _ _ hlt])
      obtain ⟨q0, q1, qf⟩ := hq.out.box.cells
      have qf0 := qf 0
      have qf1 := qf 1
      clear hRk
      clear q0 q1 qf0 qf1
      go_wp2_with (go_at_call 88; refine (none_any _).mono ?_; rintro e w6 ⟨rfl, hb6⟩; have HQ6 := hidden (hq.out.later hb6); obtain ⟨q0, q1, qf⟩ := HQ6.out.box.cells; have qf0 := qf 0; have qf1 := qf 1; clear hb6; skip)
      have HS := hidden (HQ6.out.set 4294967295 0)
      generalize (w6.setCell ⟨q, 0, none⟩ (.int .u32 4294967295)).setCell ⟨q, 1, none⟩ (.int .u32 0) = W at *
      obtain ⟨r0, r1, _⟩ := HS.out.box.cells
      have hR := HR.out
      subst hR
      refine bodyPost_ret (v := rsV .no) (by simp [results, Try.results78, go_sem, r0, r1, rsV]) rfl ⟨rfl, _, HS.out.at_⟩
end Go.Proofs.Ytpgppdkbkkljnaa
namespace Go.Proofs.Ytpgppdkbkkljnaa
open Go.RowKit
set_option maxHeartbeats 1000000
set_option maxRecDepth 100000
set_option linter.unusedVariables false

theorem binF_bad {bs : List Int} {s : Sr} {key : List Int} : ∀ {f i j : Nat} {e : Int}, binF bs s key f i j = .bad e → e = 90
  | 0, i, j, e, h => by cases h
  | f + 1, i, j, e, h => by
    rw [binF] at h
    split at h
    · split at h
      · cases h; rfl
      · split at h
        · cases h
        · split at h
          · exact binF_bad h
          · exact binF_bad h
    · cases h
theorem tell_bin (w0 w : World) (H m : Nat) (s : Sr) (ok : s.ok) (kg kc hg hc : Nat) (key : List Int) (r : Rs) (hr : ∀ e, r = .bad e → e ≠ 0) (hW : Calls Try.prog 78 #[.pointer (some ⟨H, 0, none⟩)] w (WRet w0 H m s kg kc hg hc key r)) :
    Calls Try.prog 77 #[.pointer (some ⟨H, 0, none⟩), .func (.func 78) #[.pointer (some ⟨H, 0, none⟩)] #[]] w fun e w' => e = .returned (.tuple #[.int .u32 (tellR s r).1, .int .i64 (tellR s r).2]) ∧ Below w0.heap.size w0 w' := by
  have HW := hidden hW
  clear hW
  have HQ4 := hidden (fun w => ask_4 s.key s.ks s.start s.size s.cnt s.off s.nxt s.opt w ok.opt)
  cases r with
  | bad E =>
    have hE : (E != 0) = true := by simpa using hr E rfl
    clear hr
    go_enter Try.func77, Try.ntmps77
    go_wp2_with (go_at_call 78; refine HW.out.mono ?_; rintro e w2 ⟨he, hd, hA⟩; unfold rsV at he; obtain rfl := he; skip)
    go_ret2
    exact ⟨rfl, hA.below.alloc hA.below.size _⟩
  | no =>
    clear hr
    unfold tellR
    cases hop : optB s.opt 4
    · rw [hop] at HQ4
      clear hop
      go_enter Try.func77, Try.ntmps77
      go_upto_region 2 with (go_at_call 78; refine HW.out.mono ?_; rintro e w2 ⟨he, hd, hA⟩; unfold rsV at he; obtain rfl := he; skip)
      have HA := hidden (hA.later ((Below.refl _ _).alloc (Nat.le_refl _) (.cells #[.int .u32 4294967295, .int .u32 0] 152)))
      have HP := hidden (PBox.new w2 4294967295 0)
      clear hA HW
      generalize w2.alloc (.cells #[.int .u32 4294967295, .int .u32 0] 152) = w3 at *
      generalize w2.heap.size = p at *
      obtain ⟨c0, c1, c2, c3, c4, c5, c6, c7, c8, c9, c10⟩ := HA.out.box.cells
      go_upto_region 6 with (go_at_call 85; refine (HQ4.out _).mono ?_; rintro e w4 ⟨rfl, hb4⟩; obtain ⟨p0, p1, -⟩ := (HP.out.later hb4).cells; have HBB := hidden (HA.out.below.trans (hb4.mono HA.out.below.size)); clear hb4; skip)
      go_wp2
      go_ret2
      exact ⟨rfl, HBB.out⟩
    · rw [hop] at HQ4
      clear hop
      go_enter Try.func77, Try.ntmps77
      go_upto_region 2 with (go_at_call 78; refine HW.out.mono ?_; rintro e w2 ⟨he, hd, hA⟩; unfold rsV at he; obtain rfl := he; skip)
      have HA := hidden (hA.later ((Below.refl _ _).alloc (Nat.le_refl _) (.cells #[.int .u32 4294967295, .int .u32 0] 152)))
      have HP := hidden (PBox.new w2 4294967295 0)
      clear hA HW
      generalize w2.alloc (.cells #[.int .u32 4294967295, .int .u32 0] 152) = w3 at *
      generalize w2.heap.size = p at *
      obtain ⟨c0, c1, c2, c3, c4, c5, c6, c7, c8, c9, c10⟩ := HA.out.box.cells
      go_upto_region 5 with (go_at_call 85; refine (HQ4.out _).mono ?_; rintro e w4 ⟨rfl, hb4⟩; obtain ⟨p0, p1, -⟩ := (HP.out.later hb4).cells; have HBB := hidden (HA.out.below.trans (hb4.mono HA.out.below.size)); clear hb4; skip)
      go_wp2
      go_ret2
      exact ⟨rfl, HBB.out⟩
  | at_ i a =>
    clear hr
    unfold tellR
    cases hop : optB s.opt 4
    · rw [hop] at HQ4
      clear hop
      go_enter Try.func77, Try.ntmps77
      go_upto_region 2 with (go_at_call 78; refine HW.out.mono ?_; rintro e w2 ⟨he, hd, hA⟩; unfold rsV at he; obtain rfl := he; skip)
      have HA := hidden (hA.later ((Below.refl _ _).alloc (Nat.le_refl _) (.cells #[.int .u32 (i : Int), .int .u32 (a : Int)] 152)))
      have HP := hidden (PBox.new w2 (i : Int) (a : Int))
      clear hA HW
      generalize w2.alloc (.cells #[.int .u32 (i : Int), .int .u32 (a : Int)] 152) = w3 at *
      generalize w2.heap.size = p at *
      obtain ⟨c0, c1, c2, c3, c4, c5, c6, c7, c8, c9, c10⟩ := HA.out.box.cells
      go_upto_region 6 with (go_at_call 85; refine (HQ4.out _).mono ?_; rintro e w4 ⟨rfl, hb4⟩; obtain ⟨p0, p1, -⟩ := (HP.out.later hb4).cells; have HBB := hidden (HA.out.below.trans (hb4.mono HA.out.below.size)); clear hb4; skip)
      go_wp2
      go_ret2
      exact ⟨rfl, HBB.out⟩
    · rw [hop] at HQ4
      clear hop
      go_enter Try.func77, Try.ntmps77
      go_upto_region 2 with (go_at_call 78; refine HW.out.mono ?_; rintro e w2 ⟨he, hd, hA⟩; unfold rsV at he; obtain rfl := he; skip)
      have HA := hidden (hA.later ((Below.refl _ _).alloc (Nat.le_refl _) (.cells #[.int .u32 (i : Int), .int .u32 (a : Int)] 152)))
      have HP := hidden (PBox.new w2 (i : Int) (a : Int))
      clear hA HW
      generalize w2.alloc (.cells #[.int .u32 (i : Int), .int .u32 (a : Int)] 152) = w3 at *
      generalize w2.heap.size = p at *
      obtain ⟨c0, c1, c2, c3, c4, c5, c6, c7, c8, c9, c10⟩ := HA.out.box.cells
      go_upto_region 5 with (go_at_call 85; refine (HQ4.out _).mono ?_; rintro e w4 ⟨rfl, hb4⟩; obtain ⟨p0, p1, -⟩ := (HP.out.later hb4).cells; have HBB := hidden (HA.out.below.trans (hb4.mono HA.out.below.size)); clear hb4; skip)
      go_wp2
      go_ret2
      exact ⟨rfl, HBB.out⟩
theorem bin_any (m : Nat) (bs : List Int) (s : Sr) (ok : s.ok) (w : World) (M : MRd w m bs) :
    Calls Try.prog 67 #[.pointer (some ⟨m, 0, none⟩), .agg #[.int .u32 s.key, .int .u32 s.ks, .int .u32 s.start, .int .u32 s.size, .int .u32 s.cnt, .int .u32 s.off, .int .u32 s.nxt, .int .u32 s.opt]] w fun e w' => e = .returned (.tuple #[.int .u32 (binV bs s).1, .int .i64 (binV bs s).2]) ∧ Below w.heap.size w w' := by
  have HX := hidden (SBox.new w s)
  have hb1 : Below w.heap.size w (w.alloc (.cells #[.int .u32 s.key, .int .u32 s.ks, .int .u32 s.start, .int .u32 s.size, .int .u32 s.cnt, .int .u32 s.off, .int .u32 s.nxt, .int .u32 s.opt] 127)) := (Below.refl _ _).alloc (Nat.le_refl _) _
  have HB := hidden hb1
  have HM := hidden (M.later hb1)
  clear hb1 M
  obtain ⟨V, hV⟩ : ∃ V, binV bs s = V := ⟨_, rfl⟩
  rw [hV]
  have HV := hidden hV
  clear hV
  go_enter Try.func67, Try.ntmps67
  go_upto_region 1 with fail
  generalize hwg : w.alloc (.cells #[.int .u32 s.key, .int .u32 s.ks, .int .u32 s.start, .int .u32 s.size, .int .u32 s.cnt, .int .u32 s.off, .int .u32 s.nxt, .int .u32 s.opt] 127) = w1 at *
  have HWS : Hid (w.heap.size < w1.heap.size) := hidden (by rw [← hwg]; simp)
  clear hwg
  obtain ⟨c0, c1, c2, c3, c4, c5, c6, c7⟩ := HX.out.cells
  have HK := hidden (begin_any m bs s ok _ HM.out)
  go_wp2_with fail
  refine HK.out.mono ?_
  intro e w2 hcase
  clear c0 c1 c2 c3 c4 c5 c6 c7 HK
  rcases hcase with ⟨hne, rfl, hb2⟩ | ⟨he, hk, hkl, hok, H, kg, kc, hg, hc, held, rfl, hA⟩
  · have HVV : Hid (V = (0, keyE s bs.length)) := hidden (by rw [← HV.out]; unfold binV; rw [if_pos hne])
    have hq : (keyE s bs.length != 0) = true := by simpa using hne
    have HB2 := hidden (HB.out.trans (hb2.mono HB.out.size))
    clear hne hb2
    generalize keyE s bs.length = E at *
    go_wp2
    go_ret2
    have h := HVV.out
    subst h
    exact ⟨rfl, HB2.out⟩
  · have HVV : Hid (V = tellR s (binF bs s (keyL s bs) s.cnt 0 s.cnt)) := hidden (by rw [← HV.out]; unfold binV; rw [if_neg (by rw [he]; simp)])
    have HTL := hidden (tell_bin _ _ H m s ok kg kc hg hc (keyL s bs) _ (fun e h => by have := binF_bad h; omega) (halves_any _ _ bs H m s ok kg kc hg hc (keyL s bs) held HM.out hA hk hkl hok))
    rw [← HVV.out] at HTL
    clear hA
    go_wp2_with (go_at_call 77; refine HTL.out.mono ?_; rintro e w3 ⟨rfl, hb3⟩)
    go_ret2
    exact ⟨rfl, HB.out.trans (hb3.mono HB.out.size)⟩
end Go.Proofs.Ytpgppdkbkkljnaa
