/- Contract of the document's Parse (package grottoref05), for any bytes. -/
import Derived.Test.YtedihackifchcaaR6b
import Derived.Deep.RegionHeld3
import Derived.BigRegion
namespace Go.Proofs.Ytedihackifchcaa
open Go.RowKit
set_option maxHeartbeats 1000000
set_option maxRecDepth 100000
set_option linter.unusedVariables false

/-- an append at a step of a region that draws its order -/
theorem step_append_own {w : World} {ops : Array Oper} {o : Oper} {a : Act} {K : Act → World → Prop} {Q : Exit → Act → World → Prop} {E : Prop} (hgd : o.guard = none) (s x : Operand) (t : TypeId)
    (ho : o.op = .call { callee := .builtin .append, args := #[s, x], argTypes := #[t, t] })
    (base : Nat) (e : TypeId) (i : TypeInfo) (z : Value) (size bytes : Nat) (ht : Try.prog.underlying t = some (.slice e)) (hi : Try.prog.info? e = some i) (hz : i.zero = some z)
    (hsize : i.size = size) (hby : i.bytes = bytes) (hzs : z.cells.size = size) (hsz : 0 < size)
    (v : Value) (n : Nat) (xs : List Value) (hs : a.eval s = v) (hown : w.ownsRow base e size v n xs)
    (ad : Addr) (m c : Nat) (news : List Value) (hx : a.eval x = .slice (some ad) m c) (hl : news.length = m * size) (hnews : ∀ j u, news[j]? = some u → w.cell? (ad.add j) = some u) (h1 : ∀ u ∈ news, u.oneCell' = true)
    (h63 : n + m ≤ maxLen) (hbytes : (n + m) * bytes ≤ 140737488355328) (hbase : base ≤ w.heap.size)
    (h : ∀ v' w', w'.ownsRow base e size v' (n + m) (xs ++ news) → w.grownBy w' v.ownBlock → K (a.put o.dst v') w') :
    if Region.wanted o (yielded ops a.tmps) = true then Oper.wp Try.prog o a w K Q else E := by
  have hw : Region.wanted o (yielded ops a.tmps) = true := by simp [Region.wanted, hgd]
  rw [if_pos hw]
  exact wp_append_own w s x t ho base e i z size bytes ht hi hz hsize hby hzs hsz v n xs hs hown ad m c news hx hl hnews h1 h63 hbytes hbase (fun v' w' h2 h3 _ => h v' w' h2 h3)
/-- behind the copy of a chunk's data -/
theorem tail1 {wr w5 : World} {v5 : Value} {n : Nat} {ds : List Int} (hown5 : w5.ownsRow wr.heap.size 5 1 v5 (0 + n) ([] ++ bytesV ds)) (hgrow5 : ((wr.alloc (.cells #[] 5)).drew).grownBy w5 (Value.slice (some ⟨wr.heap.size, 0, none⟩) 0 0).ownBlock) :
    ∃ a c, v5 = .slice a n c ∧ w5.ownsRow wr.heap.size 5 1 (.slice a n c) n (bytesV ds) ∧ Below wr.heap.size wr w5 := by
  rw [Nat.zero_add, List.nil_append] at hown5
  have hb : Below wr.heap.size wr w5 := (((Below.refl wr.heap.size wr).alloc (Nat.le_refl _) _).drew).grown hgrow5 (by simp) (fun j hj => by simp [Value.ownBlock] at hj; omega)
  obtain ⟨a, c, rfl⟩ := own_slice hown5
  exact ⟨a, c, rfl, hown5, hb⟩
theorem own_alloc_len {B : Nat} {w : World} {v : Value} {ks : List Ck} {kl : Nat} (hkl : ks.length = kl) (h : Got B w v ks) (o : Obj) : (w.alloc o).ownsRow B 56 2 v kl (cksV ks) := hkl ▸ h.1.alloc o
theorem tail_made (wr : World) : ((wr.alloc (.cells #[] 5)).drew).ownsRow wr.heap.size 5 1 (.slice (some ⟨wr.heap.size, 0, none⟩) 0 0) 0 [] := by
  have := World.ownsRow_made (base := wr.heap.size) (e := 5) (size := 1) wr #[] 0 (by simp) (Nat.zero_le _) (by simp)
  exact this
/-- behind the chunk's append -/
theorem tail2 {w wr w5 w6 : World} {v6 : Value} {ao a : Option Addr} {cv n c kl : Nat} {s : ByteArray} {ds : List Int} {ks : List Ck} (hkl : ks.length = kl) (hbl : Below w.heap.size w wr) (hG : Got w.heap.size wr (.slice ao kl cv) ks) (hd : w5.ownsRow wr.heap.size 5 1 (.slice a n c) n (bytesV ds)) (hb5 : Below wr.heap.size wr w5)
    (hown6 : w6.ownsRow w.heap.size 56 2 v6 (kl + 1) (cksV ks ++ [.string s, .slice a n c])) (hgrow6 : (w5.alloc (.cells #[.string s, .slice a n c] 56)).grownBy w6 (Value.slice ao kl cv).ownBlock) :
    ∃ ao3 cv3, v6 = .slice ao3 (kl + 1) cv3 ∧ Got w.heap.size w6 (.slice ao3 (kl + 1) cv3) (ks ++ [⟨s, a, n, c, ds⟩]) ∧ Below w.heap.size w w6 := by
  have hbw : Below w.heap.size w w5 := hbl.trans (hb5.mono hbl.size)
  have hG2 := hG.below hb5
  have hO := hG2.1.alloc (.cells #[.string s, .slice a n c] 56)
  have hb3 : Below w.heap.size w w6 := (hbw.alloc hbw.size _).grown hgrow6 (by have := hbw.size; simp; omega) (fun j hj => (hO.lt j hj).1)
  rw [← hkl] at hown6
  have hg3 := got_snoc (c := ⟨s, a, n, c, ds⟩) _ hG2 (own_base hd hbl.size) hown6 hgrow6
  rw [hkl] at hown6
  obtain ⟨ao3, cv3, rfl⟩ := own_slice hown6
  exact ⟨ao3, cv3, rfl, hg3, hb3⟩
theorem head_pre {zs : List Int} (h : preB zs = false) : headR zs = (50, 0) := by unfold headR; rw [if_pos h]
theorem parse_head {zs : List Int} (h : (headR zs).1 ≠ 0) : parseR zs = ([], (headR zs).1, (headR zs).2) := by unfold parseR; rw [if_pos h]
/-- the document's Parse of no bytes -/
theorem rparse_nil (a : Option Addr) (cap : Nat) (w : World) : Calls Try.prog 23 #[.slice a 0 cap] w (PRet w (strA (seg [] 8 4)) 0 (parseR [])) := by
  have hR : parseR [] = ([], 2, 0) := by
    have h : headR [] = (2, 0) := by
      unfold headR
      rw [if_neg (by decide), if_pos (by decide)]
      rfl
    rw [parse_head (by rw [h]; decide), h]
  rw [hR]
  generalize strA (seg [] 8 4) = S8
  go_enter Try.func23, Try.ntmps23
  go_wp2
  go_rounds 1
  refine bodyPost_ret (v := .tuple #[.string ⟨#[]⟩, .slice none 0 0, .int .i64 2, .int .i64 0]) (by simp [results, Try.results23, go_sem]) rfl ?_
  exact ⟨Below.refl _ _, .inl ⟨by simp, rfl⟩⟩
set_option maxHeartbeats 4000000 in
theorem rparse_any (g o L cap : Nat) (zs : List Int) (w : World) (h : Bs w g o L zs) (hok : OkB zs) (hm : L ≤ 1000012) (hcap : L ≤ cap) :
    Calls Try.prog 23 #[.slice (some ⟨g, o, none⟩) L cap] w (PRet w (strA (seg zs 8 4)) L (parseR zs)) := by
  obtain ⟨i0, hi, hz0, hz1, hz2⟩ := info_parts info59
  obtain ⟨j0, ji, jz0, jz1, jz2⟩ := info_parts info8
  have hlen := h.1
  have HBs := hidden h
  have hLi : (L : Int) ≤ 1000012 := by omega
  have HOK := hidden hok
  have HPI := hidden (pre_iff zs hok)
  clear h
  obtain ⟨R, hR⟩ : ∃ R, R = parseR zs := ⟨_, rfl⟩
  rw [← hR]
  have HR := hidden hR
  clear hR hok
  go_enter Try.func23, Try.ntmps23
  go_wp2
  go_loopw [6] (fun i w' => ∃ k : Nat, k ≤ 4 ∧ k ≤ L ∧ i = .int .i64 k ∧ (∀ j, j < k → zs.getD j 0 = ([70, 79, 82, 77] : List Int).getD j 0) ∧ Below w.heap.size w w') (fun i _ => 4 - (intOf i).toNat)
  case atStart => exact ⟨0, by omega, by omega, rfl, fun j hj => by omega, Below.refl _ _⟩
  case round =>
    obtain ⟨k, hk4, hkL, rfl, hd, hbl⟩ := hrel
    have HD := hidden hd
    have hs1 := hbl.size
    clear hd
    by_cases hlt : k < 4 ∧ k < L
    · have q1 : (k : Int) < 4 := by omega
      have q2 : (k : Int) < (L : Int) := by omega
      have c0 := (HBs.out.later hbl).2 k hlt.2
      have q0 : (0 : Int) ≤ (k : Int) := by omega
      have hzb := okb_at HOK.out k
      have HNE : Hid (zs.getD k 0 ≠ ([70, 79, 82, 77] : List Int).getD k 0 → R = ([], 50, 0)) := hidden fun hne => by
        have hf : preB zs = false := by
          cases hp : preB zs
          · rfl
          · exact absurd (HPI.out.1 hp k hlt.1 (by omega)) hne
        rw [HR.out, parse_head (by rw [head_pre hf]; decide), head_pre hf]
      have HEQ : Hid (zs.getD k 0 = ([70, 79, 82, 77] : List Int).getD k 0 → ∀ j, j < k + 1 → zs.getD j 0 = ([70, 79, 82, 77] : List Int).getD j 0) := hidden fun he j hj => by
        by_cases e : j = k
        · subst e; exact he
        · exact HD.out j (by omega)
      have hcc : k = 0 ∨ k = 1 ∨ k = 2 ∨ k = 3 := by omega
      generalize zs.getD k 0 = Z at *
      have hlt4 := hlt.1
      clear hlt
      have hsz : k < (⟨#[70, 79, 82, 77]⟩ : ByteArray).size := hlt4
      have hF : (((⟨#[70, 79, 82, 77]⟩ : ByteArray)[k]'hsz).toNat : Int) = ([70, 79, 82, 77] : List Int).getD k 0 := by
        rcases hcc with rfl | rfl | rfl | rfl <;> rfl
      rw [← hF] at HNE HEQ
      clear hF hcc
      by_cases hne : Z ≠ (((⟨#[70, 79, 82, 77]⟩ : ByteArray)[k]'hsz).toNat : Int)
      · have hR := HNE.out hne
        subst hR
        have hne2 : (Z != (((⟨#[70, 79, 82, 77]⟩ : ByteArray)[k]'hsz).toNat : Int)) = true := by simpa using hne
        clear HNE HEQ HR hne HPI HOK HD
        go_upto_region 6 with fail
        go_quiet (fail)
        go_wp2
        refine bodyPost_ret (v := .tuple #[.string ⟨#[]⟩, .slice none 0 0, .int .i64 50, .int .i64 0]) (by simp [results, Try.results23, go_sem]) rfl ?_
        exact ⟨below_drewN hbl _, .inl ⟨by simp, rfl⟩⟩
      · have hne2 : (Z != (((⟨#[70, 79, 82, 77]⟩ : ByteArray)[k]'hsz).toNat : Int)) = false := by simpa using hne
        have HEQ2 := hidden (HEQ.out (Classical.not_not.1 hne))
        have hkL2 : k + 1 ≤ L := by omega
        clear HNE HEQ HR hne HPI HOK HD
        go_upto_region 6 with fail
        go_quiet (fail)
        go_wp2
        go_roundw
        case rel => exact ⟨k + 1, by omega, hkL2, by go_num, HEQ2.out, below_drewN hbl _⟩
        case measure => simp [intOf]; omega
    · have hpre : preB zs = true := HPI.out.2 (fun i hi hil => HD.out i (by omega))
      clear HD HPI
      have HB := hidden (HBs.out.later hbl)
      have hcond : (k : Int) < 4 → ¬ (k : Int) < (L : Int) := by omega
      have HC4 : Hid ((4 : Int) ≤ k ∨ ((k : Int) < 4 ∧ (L : Int) ≤ k)) := hidden (by omega)
      clear hcond
      have hv := beV_bd zs 4 HOK.out
      have hlt' := hlt
      -- the loop ends: its own condition is told both ways
      by_cases hL12 : L < 12
      · have hh : headR zs = (2, (L : Int)) := by unfold headR; rw [if_neg (by rw [hpre]; decide), hlen, if_pos hL12]
        have hR : R = ([], 2, (L : Int)) := by rw [HR.out, parse_head (by rw [hh]; simp), hh]
        subst hR
        have q3 : (L : Int) < 12 := by omega
        clear HR hh hpre
        rcases HC4.out with q4 | ⟨q4, q5⟩
        · go_wp2
          refine bodyPost_ret (v := .tuple #[.string ⟨#[]⟩, .slice none 0 0, .int .i64 2, .int .i64 L]) (by simp [results, Try.results23, go_sem]) rfl ?_
          exact ⟨hbl, .inl ⟨by simp, rfl⟩⟩
        · go_wp2
          refine bodyPost_ret (v := .tuple #[.string ⟨#[]⟩, .slice none 0 0, .int .i64 2, .int .i64 L]) (by simp [results, Try.results23, go_sem]) rfl ?_
          exact ⟨hbl, .inl ⟨by simp, rfl⟩⟩
      have q3 : ¬ (L : Int) < 12 := by omega
      have q4 : (4 : Int) ≤ (k : Int) := by
        rcases HC4.out with q4 | ⟨q4, q5⟩
        · exact q4
        · omega
      have HN4 := hidden (rnum_any g o L cap 4 zs wr HB.out HOK.out (by omega) hcap (by omega))
      clear HC4
      by_cases hsz : beV zs 4 4 ≠ (L : Int) - 8
      · have hh : headR zs = (51, 4) := by unfold headR; rw [if_neg (by rw [hpre]; decide), hlen, if_neg hL12, if_pos hsz]
        have hR : R = ([], 51, 4) := by rw [HR.out, parse_head (by rw [hh]; simp), hh]
        subst hR
        have q5 : (beV zs 4 4 + 8 != (L : Int)) = true := by simp; omega
        clear HR hh hpre hsz
        generalize beV zs 4 4 = V at *
        go_wp2_with (go_at_call 45; refine HN4.out.mono ?_; rintro e w9 ⟨rfl, hw⟩; obtain rfl := hw.symm)
        refine bodyPost_ret (v := .tuple #[.string ⟨#[]⟩, .slice none 0 0, .int .i64 51, .int .i64 4]) (by simp [results, Try.results23, go_sem]) rfl ?_
        exact ⟨hbl, .inl ⟨by simp, rfl⟩⟩
      have hsz' : beV zs 4 4 = (L : Int) - 8 := Classical.not_not.1 hsz
      rw [hsz'] at HN4 hv
      have e8 := conv_reads wr _ _ _ _ (seg_okb HOK.out 8 4) (HB.out.sub 8 4 (cap - 8) (by omega) (by omega))
      have e8' : (convert 22 9 (.slice (some ⟨g, o + 8, none⟩) 4 (cap - 8))).run Try.prog wr = .ok (.string (strA (seg zs 8 4))) wr := e8
      have n8 : ¬ cap = 8 := by omega
      have n9 : (12 : Int) ≤ (cap : Int) := by omega
      have hs8 : (strA (seg zs 8 4)).size ≤ 281474976710656 := by
        show (strB _).toArray.size ≤ _
        have := seg_len zs 8 4 (by omega)
        simp [strB, this]
      by_cases hid : ¬ IsId (strA (seg zs 8 4))
      · have hh : headR zs = (50, 8) := by unfold headR; rw [if_neg (by rw [hpre]; decide), hlen, if_neg hL12, if_neg hsz, if_pos hid]
        have hR : R = ([], 50, 8) := by rw [HR.out, parse_head (by rw [hh]; simp), hh]
        subst hR
        have HT := ridc_f hid hs8
        clear HR hh hpre hsz e8 hid hsz'
        generalize strA (seg zs 8 4) = S8 at *
        go_wp2_with (first | (go_at_call 45; refine HN4.out.mono ?_; rintro e w9 ⟨rfl, hw⟩; obtain rfl := hw.symm) | (go_at_call 40; refine (HT.out _).mono ?_; rintro e w9 ⟨rfl, hw⟩; obtain rfl := hw.symm))
        refine bodyPost_ret (v := .tuple #[.string ⟨#[]⟩, .slice none 0 0, .int .i64 50, .int .i64 8]) (by simp [results, Try.results23, go_sem]) rfl ?_
        exact ⟨hbl, .inl ⟨by simp, rfl⟩⟩
      have hh : headR zs = (0, 0) := by unfold headR; rw [if_neg (by rw [hpre]; decide), hlen, if_neg hL12, if_neg hsz, if_neg hid]
      have hR : R = pgo zs (L + 1) 12 [] := by rw [HR.out]; unfold parseR; rw [if_neg (by rw [hh]; simp), hlen]
      have HRR := hidden hR.symm
      have HT := ridc_t (Classical.not_not.1 hid)
      have HE8 : Hid (∀ wx, Below w.heap.size w wx → (convert 22 9 (.slice (some ⟨g, o + 8, none⟩) 4 (cap - 8))).run Try.prog wx = .ok (.string (strA (seg zs 8 4))) wx) := hidden fun wx hb => conv_reads wx _ _ _ _ (seg_okb HOK.out 8 4) ((HBs.out.later hb).sub 8 4 (cap - 8) (by omega) (by omega))
      clear HR hh hpre hsz e8 hid hR hsz'
      generalize strA (seg zs 8 4) = S8 at *
      generalize hwb : wr = wb at *
      clear hwb
      go_wp2_with (first | (go_at_call 45; refine HN4.out.mono ?_; rintro e w9 ⟨rfl, hw⟩; obtain rfl := hw.symm) | (go_at_call 40; refine (HT.out _).mono ?_; rintro e w9 ⟨rfl, hw⟩; obtain rfl := hw.symm))
      clear HN4 HT HB e8'
      go_loopw [7, 8] (fun v pv w' => ∃ (F p : Nat) (ks : List Ck) (ao : Option Addr) (cv : Nat), p ≤ L ∧ 12 ≤ p ∧ L < p + F ∧ ks.length ≤ 1024 ∧ pv = .int .i64 (p : Int) ∧ v = .slice ao ks.length cv ∧ Got w.heap.size w' v ks ∧ Hid (pgo zs F p (ks.map scOf) = R) ∧ (∀ k ∈ ks, k.d.length = k.l ∧ OkB k.d ∧ k.id.size = 4) ∧ Below w.heap.size w w') (fun _ pv _ => L - (intOf pv).toNat)
      case atStart => exact ⟨L + 1, 12, [], none, 0, by omega, by omega, by omega, by simp, rfl, rfl, ⟨World.ownsRow_nil _ _ _ _, fun k hk => by cases hk⟩, HRR, (fun k hk => by cases hk), hbl⟩
      case round =>
        clear hbl hs1
        obtain ⟨F, p, ks, ao, cv, hpL, hp12, hfu, hk1, rfl, rfl, hgot, HP, hall, hbl⟩ := hrel
        have HG := hidden hgot
        have HAll := hidden hall
        clear hgot HRR hall
        have hs1 := hbl.size
        obtain ⟨F', rfl⟩ : ∃ F', F = F' + 1 := ⟨F - 1, by omega⟩
        have hst := HP.out
        unfold pgo at hst
        rw [hlen, List.length_map] at hst
        have HST := hidden hst
        clear hst HP
        by_cases hlt : p < L
        · rw [if_neg (by omega)] at HST
          have hpLi : (p : Int) < (L : Int) := by omega
          have hpne : ((p : Int) != (L : Int)) = true := by simp; omega
          by_cases hk : ks.length = 1024
          · rw [if_pos hk] at HST
            have hk2 : (1024 : Int) ≤ (ks.length : Int) := by omega
            have hR : R = ([], 4, (p : Int)) := HST.out.symm
            subst hR
            clear HST hk
            generalize ks.length = kl at *
            go_wp2
            refine bodyPost_ret (v := .tuple #[.string ⟨#[]⟩, .slice none 0 0, .int .i64 4, .int .i64 p]) (by simp [results, Try.results23, go_sem]) rfl ?_
            exact ⟨hbl, .inl ⟨by simp, rfl⟩⟩
          rw [if_neg hk] at HST
          have hk2 : ¬ (1024 : Int) ≤ (ks.length : Int) := by omega
          have hk3 : ks.length < 1024 := by omega
          clear hk
          have HB := hidden (HBs.out.later hbl)
          have hv := beV_bd zs (p + 4) HOK.out
          obtain ⟨n, hn⟩ := Int.eq_ofNat_of_zero_le hv.1
          obtain ⟨C, hC⟩ : ∃ C, C = chunkR zs p := ⟨_, rfl⟩
          rw [← hC] at HST
          unfold chunkR at hC
          rw [hlen, hn] at hC
          have HC := hidden hC
          clear hC
          by_cases c1 : L < p + 8
          · have hCC : C = (0, 2, (L : Int)) := by rw [HC.out, if_pos c1]
            subst hCC
            have hR : R = ([], 2, (L : Int)) := by rw [← HST.out]; simp
            subst hR
            have q1 : (L : Int) - (p : Int) < 8 := by omega
            clear HST HC
            generalize ks.length = kl at *
            go_wp2
            refine bodyPost_ret (v := .tuple #[.string ⟨#[]⟩, .slice none 0 0, .int .i64 2, .int .i64 L]) (by simp [results, Try.results23, go_sem]) rfl ?_
            exact ⟨hbl, .inl ⟨by simp, rfl⟩⟩
          rw [if_neg c1] at HC
          have q1 : ¬ (L : Int) - (p : Int) < 8 := by omega
          have hcvp := conv_reads wr _ _ _ _ (seg_okb HOK.out p 4) (HB.out.sub p 4 (cap - p) (by omega) (by omega))
          have hcvp' : (convert 22 9 (.slice (some ⟨g, o + p, none⟩) 4 (cap - p))).run Try.prog wr = .ok (.string (strA (seg zs p 4))) wr := hcvp
          have HCV : Hid (∀ wx, Below wr.heap.size wr wx → (convert 22 9 (.slice (some ⟨g, o + p, none⟩) 4 (cap - p))).run Try.prog wx = .ok (.string (strA (seg zs p 4))) wx) := hidden fun wx hb => conv_reads wx _ _ _ _ (seg_okb HOK.out p 4) ((HB.out.later hb).sub p 4 (cap - p) (by omega) (by omega))
          have HCW : Hid (∀ wx, Below w.heap.size w wx → (convert 22 9 (.slice (some ⟨g, o + p, none⟩) 4 (cap - p))).run Try.prog wx = .ok (.string (strA (seg zs p 4))) wx) := hidden fun wx hb => conv_reads wx _ _ _ _ (seg_okb HOK.out p 4) ((HBs.out.later hb).sub p 4 (cap - p) (by omega) (by omega))
          have hsp : (strA (seg zs p 4)).size = 4 := by
            show (strB _).toArray.size = _
            have := seg_len zs p 4 (by omega)
            simp [strB, this]
          have n1 : ¬ cap = p := by omega
          have e2 : ((p : Int) + 4).toNat = p + 4 := by omega
          have e3 : p + 4 - p = 4 := by omega
          have e4 : (p : Int) + 4 ≤ (cap : Int) := by omega
          have e5 : (p : Int) + 4 ≤ 9223372036854775807 := by omega
          have hpi : (p : Int) ≤ 1000012 := by omega
          clear hcvp
          by_cases c2 : ¬ IsId (strA (seg zs p 4))
          · have hCC : C = (0, 50, (p : Int)) := by rw [HC.out, if_pos c2]
            subst hCC
            have hR : R = ([], 50, (p : Int)) := by rw [← HST.out]; simp
            subst hR
            have HT := ridc_f c2 (by omega)
            clear HST HC c2 HCV
            generalize ks.length = kl at *
            generalize strA (seg zs p 4) = sS at *
            go_wp2_with (go_at_call 40; refine (HT.out _).mono ?_; rintro e w9 ⟨rfl, hw⟩; obtain rfl := hw.symm)
            refine bodyPost_ret (v := .tuple #[.string ⟨#[]⟩, .slice none 0 0, .int .i64 50, .int .i64 p]) (by simp [results, Try.results23, go_sem]) rfl ?_
            exact ⟨hbl, .inl ⟨by simp, rfl⟩⟩
          rw [if_neg c2] at HC
          have HT := ridc_t (Classical.not_not.1 c2)
          have HNm := hidden (rnum_any g o L cap (p + 4) zs wr HB.out HOK.out (by omega) hcap (by omega))
          rw [hn, show ((p + 4 : Nat) : Int) = (p : Int) + 4 by omega] at HNm
          clear c2
          have gn : (n : Int) ≤ 4294967295 := by omega
          by_cases c3 : (L : Int) - (p + 8) < (n : Int)
          · have hCC : C = (0, 51, (p : Int) + 4) := by rw [HC.out, if_pos c3]
            subst hCC
            have hR : R = ([], 51, (p : Int) + 4) := by rw [← HST.out]; simp
            subst hR
            have q2 : (L : Int) - (p : Int) - 8 < (n : Int) := by omega
            clear HST HC HCV hn
            generalize ks.length = kl at *
            generalize strA (seg zs p 4) = sS at *
            go_wp2_with (first | (go_at_call 40; refine (HT.out _).mono ?_; rintro e w9 ⟨rfl, hw⟩; obtain rfl := hw.symm) | (go_at_call 45; refine HNm.out.mono ?_; rintro e w9 ⟨rfl, hw⟩; obtain rfl := hw.symm))
            refine bodyPost_ret (v := .tuple #[.string ⟨#[]⟩, .slice none 0 0, .int .i64 51, .int .i64 ((p : Int) + 4)]) (by simp [results, Try.results23, go_sem]) rfl ?_
            exact ⟨hbl, .inl ⟨by simp, rfl⟩⟩
          rw [if_neg c3] at HC
          have q2 : ¬ (L : Int) - (p : Int) - 8 < (n : Int) := by omega
          have q9 : ((n : Int) > (L : Int) - (p : Int) - 8) = False := by simp; omega
          have hn63 : n ≤ 1000012 := by omega
          have hni : (n : Int) ≤ 1000012 := by omega
          have HQ3 : Hid (∀ i, i < n → zs.getD (p + 8 + i) 0 = (seg zs (p + 8) n).getD i 0) := hidden fun i hi => (seg_at _ _ _ _ hi (by omega)).symm
          have hdl : (seg zs (p + 8) n).length = n := seg_len zs (p + 8) n (by omega)
          have HDO := hidden (seg_okb HOK.out (p + 8) n)
          by_cases c4 : (n : Int) % 2 = 0
          · have hCC : C = ((n : Int), 0, 0) := by rw [HC.out, if_pos c4]
            subst hCC
            have q3 : ((n : Int) % 2 == 1) = false := by simp; omega
            have hfit : p + 8 + n + n % 2 ≤ L := by omega
            simp only [Int.toNat_natCast] at HST
            rw [if_neg (by simp)] at HST
            clear HC hn c4 c3
            generalize hsS : strA (seg zs p 4) = sS at *
            generalize hsD : seg zs (p + 8) n = sD at *
            clear hsS hsD
            have g1 : (p : Int) + 8 + (n : Int) ≤ (cap : Int) := by omega
            have g2 : (p : Int) + 8 ≤ (p : Int) + 8 + (n : Int) := by omega
            have g3 : ((p : Int) + 8).toNat = p + 8 := by omega
            have g4 : ((p : Int) + 8 + (n : Int)).toNat = p + 8 + n := by omega
            have g5 : p + 8 + n - (p + 8) = n := by omega
            have g6 : (0 : Int) ≤ (p : Int) + 8 := by omega
            have g8 : (0 : Int) ≤ (n : Int) := by omega
            have g10 : (p : Int) + 8 + (n : Int) ≤ 9223372036854775807 := by omega
            obtain ⟨A, hA, hAc⟩ : ∃ A : Addr, (if cap = p + 8 then some (⟨g, o, none⟩ : Addr) else some ⟨g, o + (p + 8), none⟩) = some A ∧ Hid (∀ wx, Below wr.heap.size wr wx → ∀ j u, (bytesV sD)[j]? = some u → wx.cell? (A.add j) = some u) := by
              by_cases hcz : cap = p + 8
              · refine ⟨⟨g, o, none⟩, by simp [hcz], hidden fun wx hb j u hj => ?_⟩
                have := (List.getElem?_eq_some_iff.1 hj).1
                simp [bytesV] at this
                omega
              · refine ⟨⟨g, o + (p + 8), none⟩, by simp [hcz], hidden fun wx hb j u hj => ?_⟩
                have hjl := (List.getElem?_eq_some_iff.1 hj).1
                simp only [bytesV, List.length_map] at hjl
                have hB := HB.out.later hb
                rw [bytesV_at sD j hjl] at hj
                cases hj
                rw [plain_add, Nat.add_assoc, hB.2 (p + 8 + j) (by omega), HQ3.out j (by omega)]
            have hsl : ∀ w, (Instr.sliceAt 22 (.slice (some ⟨g, o, none⟩) L cap) (some (.int .i64 ((p : Int) + 8))) (some (.int .i64 ((p : Int) + 8 + (n : Int)))) none).run Try.prog w = .ok (.slice (some A) n (cap - (p + 8))) w := fun w => by
              go_simp
            have hsl2 : ∀ w, (Instr.sliceAt 22 (.slice (some ⟨g, o, none⟩) L cap) (some (.int .i64 (p : Int))) (some (.int .i64 ((p : Int) + 4))) none).run Try.prog w = .ok (.slice (some ⟨g, o + p, none⟩) 4 (cap - p)) w := fun w => by
              have z1 : ¬ (p : Int) + 4 < 0 := by omega
              go_simp
            have w1 : IntKind.i64.wrap ((p : Int) + 8 + (n : Int)) = (p : Int) + 8 + (n : Int) := by rw [IntKind.wrap_i64]; omega
            have hcd := HCV.out wr.drew ((Below.refl _ _).drew)
            go_upto_region 31 with (first | (go_at_call 40; refine (HT.out _).mono ?_; rintro e w9 ⟨rfl, hw⟩; obtain rfl := hw.symm) | (go_at_call 45; refine HNm.out.mono ?_; rintro e w9 ⟨rfl, hw⟩; obtain rfl := hw.symm))
            generalize hkl : ks.length = kl at *
            have HO1 := hidden (tail_made wr)
            have HCV2 := HCV
            have hcd2 := HCV.out (wr.alloc (.cells #[] 5)).drew (((Below.refl _ _).alloc (Nat.le_refl _) _).drew)
            have HA1 := hidden (hAc.out (wr.alloc (.cells #[] 5)).drew (((Below.refl _ _).alloc (Nat.le_refl _) _).drew))
            have HBL := hidden hbl
            have hkl4 : kl < 1024 := by omega
            go_cut [7] from 120 to 146 (fun v wx => ∃ (a2 : Option Addr) (c2 : Nat) (ao3 : Option Addr) (cv3 : Nat), v = .slice ao3 (kl + 1) cv3 ∧ Got w.heap.size wx (.slice ao3 (kl + 1) cv3) (ks ++ [⟨sS, a2, n, c2, sD⟩]) ∧ Below w.heap.size w wx)
            case first =>
              clear hv hpne hpLi gn q9 q1 q2 q3 hk2 hk3 hlt c1 hfit hk1 hfu HST HAll HDO HQ3 HNm HT HBs HB HE8 HCV2
              clear hsl hsl2
              have z1 : (0 : Int) ≤ (p : Int) + 4 := by omega
              have w2 : IntKind.i64.wrap ((p : Int) + 8) = (p : Int) + 8 := by rw [IntKind.wrap_i64]; omega
              have w3 : IntKind.i64.wrap ((p : Int) + 4) = (p : Int) + 4 := by rw [IntKind.wrap_i64]; omega
              go_region_held3 (fun w' => (convert 22 9 (.slice (some ⟨g, o + p, none⟩) 4 (cap - p))).run Try.prog w' = .ok (.string sS) w') (first | assumption | (dsimp only; assumption)) (first | (refine step_append_own (by rfl) _ _ 22 (by rfl) wr.heap.size 5 j0 (.int .u8 0) 1 1 Try.underlying22 ji jz0 jz1 jz2 rfl (by decide) _ 0 [] (by rfl) HO1.out A n (cap - (p + 8)) (bytesV sD) (by rfl) (by simp [bytesV, hdl]) HA1.out (bytesV_one sD) (by unfold maxLen; omega) (by omega) (by simp) ?_; intro v5 w5 hown5 hgrow5; obtain ⟨a5, c5, rfl, ho5, hb5⟩ := tail1 hown5 hgrow5; have hcd5 := HCV.out w5 hb5; have hcd5' := HCV.out (w5.alloc (.cells #[.string sS, .slice a5 n c5] 56)) (hb5.alloc hb5.size _); have HH5 := hidden (And.intro ho5 hb5); clear hown5 hgrow5 ho5 hb5) | (refine step_append_own (by rfl) _ _ 50 (by rfl) w.heap.size 56 i0 (.agg #[.string ⟨#[]⟩, .slice none 0 0]) 2 40 Try.underlying50 hi hz0 hz1 hz2 rfl (by decide) _ kl (cksV ks) (by rfl) (own_alloc_len hkl (HG.out.below HH5.out.2) _) ⟨w5.heap.size, 0, none⟩ 1 1 [.string sS, .slice a5 n c5] (by rfl) rfl (cell_two_new w5 _ _ _) (by intro u hu; simp at hu; rcases hu with rfl | rfl <;> rfl) (by unfold maxLen; omega) (by omega) (by have := HBL.out.size; have := HH5.out.2.size; simp; omega) ?_; intro v6 w6 hown6 hgrow6; obtain ⟨a6, c6, rfl, hg6, hb6⟩ := tail2 hkl HBL.out HG.out HH5.out.1 HH5.out.2 hown6 hgrow6; have hcd6 := HCW.out w6 hb6))
              all_goals (try go_wp2_with fail)
              all_goals go_meet
              all_goals exact ⟨a5, c5, a6, c6, rfl, hg6, hb6⟩
            case rest =>
              clear HG hbl HBL hAc HA1 hcd hcd2 HO1 hsl hsl2
              obtain ⟨a2, c2, ao3, cv3, rfl, hg3, hb3⟩ := hcut
              have HG3 := hidden hg3
              clear hg3
              have hs3 := hb3.size
              go_wp2
              go_roundw
              case rel =>
                have hl1 : (ks ++ [(⟨sS, a2, n, c2, sD⟩ : Ck)]).length = kl + 1 := by simp [hkl]
                refine ⟨F', p + (8 + n + n % 2), ks ++ [⟨sS, a2, n, c2, sD⟩], ao3, cv3, by omega, by omega, by omega, by rw [hl1]; omega, int_eq (by omega), by rw [hl1], ?_, ?_, ?_, hb3⟩
                · exact HG3.out
                · have := HST.out
                  refine hidden ?_
                  rw [List.map_append, show p + (8 + n + n % 2) = p + 8 + n + n % 2 by omega]
                  exact this
                · intro k hk
                  rcases List.mem_append.1 hk with h' | h'
                  · exact HAll.out k h'
                  · rw [List.mem_singleton.1 h']; exact ⟨hdl, HDO.out, hsp⟩
              case measure => simp [intOf]; omega
          rw [if_neg c4] at HC
          have q3 : ((n : Int) % 2 == 1) = true := by simp; omega
          by_cases c5 : (p : Int) + 8 + (n : Int) = L
          · have hCC : C = (0, 2, (L : Int)) := by rw [HC.out, if_pos c5]
            subst hCC
            have hR : R = ([], 2, (L : Int)) := by rw [← HST.out]; simp
            subst hR
            have q4 : ((n : Int) == (L : Int) - (p : Int) - 8) = true := by simp; omega
            clear HST HC HCV hn c4 c5 c3
            generalize ks.length = kl at *
            generalize strA (seg zs p 4) = sS at *
            go_wp2_with (first | (go_at_call 40; refine (HT.out _).mono ?_; rintro e w9 ⟨rfl, hw⟩; obtain rfl := hw.symm) | (go_at_call 45; refine HNm.out.mono ?_; rintro e w9 ⟨rfl, hw⟩; obtain rfl := hw.symm))
            refine bodyPost_ret (v := .tuple #[.string ⟨#[]⟩, .slice none 0 0, .int .i64 2, .int .i64 L]) (by simp [results, Try.results23, go_sem]) rfl ?_
            exact ⟨hbl, .inl ⟨by simp, rfl⟩⟩
          rw [if_neg c5] at HC
          have q4 : ((n : Int) == (L : Int) - (p : Int) - 8) = false := by simp; omega
          have k3 := HB.out.2 (p + 8 + n) (by omega)
          have k4 : ((p : Int) + 8 + (n : Int)).toNat = p + 8 + n := by omega
          have k5 : (p : Int) + 8 + (n : Int) < (L : Int) := by omega
          rw [Int.toNat_natCast] at HC
          by_cases c6 : zs.getD (p + 8 + n) 0 ≠ 0
          · have hCC : C = (0, 52, (p : Int) + 8 + n) := by rw [HC.out, if_pos c6]
            subst hCC
            have hR : R = ([], 52, (p : Int) + 8 + n) := by rw [← HST.out]; simp
            subst hR
            have q5 : (zs.getD (p + 8 + n) 0 != 0) = true := by simpa using c6
            clear HST HC HCV hn c4 c5 c3 c6 HQ3
            generalize zs.getD (p + 8 + n) 0 = Z at *
            generalize ks.length = kl at *
            generalize strA (seg zs p 4) = sS at *
            go_wp2_with (first | (go_at_call 40; refine (HT.out _).mono ?_; rintro e w9 ⟨rfl, hw⟩; obtain rfl := hw.symm) | (go_at_call 45; refine HNm.out.mono ?_; rintro e w9 ⟨rfl, hw⟩; obtain rfl := hw.symm))
            refine bodyPost_ret (v := .tuple #[.string ⟨#[]⟩, .slice none 0 0, .int .i64 52, .int .i64 ((p : Int) + 8 + n)]) (by simp [results, Try.results23, go_sem]) rfl ?_
            exact ⟨hbl, .inl ⟨by simp, rfl⟩⟩
          · have hCC : C = ((n : Int), 0, 0) := by rw [HC.out, if_neg c6]
            subst hCC
            have c6' : zs.getD (p + 8 + n) 0 = 0 := by simpa using c6
            rw [c6'] at k3
            have hfit : p + 8 + n + n % 2 ≤ L := by omega
            clear c6 c6'
            simp only [Int.toNat_natCast] at HST
            rw [if_neg (by simp)] at HST
            clear HC hn c4 c3
            generalize hsS : strA (seg zs p 4) = sS at *
            generalize hsD : seg zs (p + 8) n = sD at *
            clear hsS hsD
            have g1 : (p : Int) + 8 + (n : Int) ≤ (cap : Int) := by omega
            have g2 : (p : Int) + 8 ≤ (p : Int) + 8 + (n : Int) := by omega
            have g3 : ((p : Int) + 8).toNat = p + 8 := by omega
            have g4 : ((p : Int) + 8 + (n : Int)).toNat = p + 8 + n := by omega
            have g5 : p + 8 + n - (p + 8) = n := by omega
            have g6 : (0 : Int) ≤ (p : Int) + 8 := by omega
            have g8 : (0 : Int) ≤ (n : Int) := by omega
            have g10 : (p : Int) + 8 + (n : Int) ≤ 9223372036854775807 := by omega
            obtain ⟨A, hA, hAc⟩ : ∃ A : Addr, (if cap = p + 8 then some (⟨g, o, none⟩ : Addr) else some ⟨g, o + (p + 8), none⟩) = some A ∧ Hid (∀ wx, Below wr.heap.size wr wx → ∀ j u, (bytesV sD)[j]? = some u → wx.cell? (A.add j) = some u) := by
              by_cases hcz : cap = p + 8
              · refine ⟨⟨g, o, none⟩, by simp [hcz], hidden fun wx hb j u hj => ?_⟩
                have := (List.getElem?_eq_some_iff.1 hj).1
                simp [bytesV] at this
                omega
              · refine ⟨⟨g, o + (p + 8), none⟩, by simp [hcz], hidden fun wx hb j u hj => ?_⟩
                have hjl := (List.getElem?_eq_some_iff.1 hj).1
                simp only [bytesV, List.length_map] at hjl
                have hB := HB.out.later hb
                rw [bytesV_at sD j hjl] at hj
                cases hj
                rw [plain_add, Nat.add_assoc, hB.2 (p + 8 + j) (by omega), HQ3.out j (by omega)]
            have hsl : ∀ w, (Instr.sliceAt 22 (.slice (some ⟨g, o, none⟩) L cap) (some (.int .i64 ((p : Int) + 8))) (some (.int .i64 ((p : Int) + 8 + (n : Int)))) none).run Try.prog w = .ok (.slice (some A) n (cap - (p + 8))) w := fun w => by
              go_simp
            have hsl2 : ∀ w, (Instr.sliceAt 22 (.slice (some ⟨g, o, none⟩) L cap) (some (.int .i64 (p : Int))) (some (.int .i64 ((p : Int) + 4))) none).run Try.prog w = .ok (.slice (some ⟨g, o + p, none⟩) 4 (cap - p)) w := fun w => by
              have z1 : ¬ (p : Int) + 4 < 0 := by omega
              go_simp
            have w1 : IntKind.i64.wrap ((p : Int) + 8 + (n : Int)) = (p : Int) + 8 + (n : Int) := by rw [IntKind.wrap_i64]; omega
            have hcd := HCV.out wr.drew ((Below.refl _ _).drew)
            go_upto_region 31 with (first | (go_at_call 40; refine (HT.out _).mono ?_; rintro e w9 ⟨rfl, hw⟩; obtain rfl := hw.symm) | (go_at_call 45; refine HNm.out.mono ?_; rintro e w9 ⟨rfl, hw⟩; obtain rfl := hw.symm))
            generalize hkl : ks.length = kl at *
            have HO1 := hidden (tail_made wr)
            have HCV2 := HCV
            have hcd2 := HCV.out (wr.alloc (.cells #[] 5)).drew (((Below.refl _ _).alloc (Nat.le_refl _) _).drew)
            have HA1 := hidden (hAc.out (wr.alloc (.cells #[] 5)).drew (((Below.refl _ _).alloc (Nat.le_refl _) _).drew))
            have HBL := hidden hbl
            have hkl4 : kl < 1024 := by omega
            go_cut [7] from 120 to 146 (fun v wx => ∃ (a2 : Option Addr) (c2 : Nat) (ao3 : Option Addr) (cv3 : Nat), v = .slice ao3 (kl + 1) cv3 ∧ Got w.heap.size wx (.slice ao3 (kl + 1) cv3) (ks ++ [⟨sS, a2, n, c2, sD⟩]) ∧ Below w.heap.size w wx)
            case first =>
              clear hv hpne hpLi gn q9 q1 q2 q3 hk2 hk3 hlt c1 hfit hk1 hfu HST HAll HDO HQ3 HNm HT HBs HB HE8 HCV2
              clear hsl hsl2
              have z1 : (0 : Int) ≤ (p : Int) + 4 := by omega
              have w2 : IntKind.i64.wrap ((p : Int) + 8) = (p : Int) + 8 := by rw [IntKind.wrap_i64]; omega
              have w3 : IntKind.i64.wrap ((p : Int) + 4) = (p : Int) + 4 := by rw [IntKind.wrap_i64]; omega
              go_region_held3 (fun w' => (convert 22 9 (.slice (some ⟨g, o + p, none⟩) 4 (cap - p))).run Try.prog w' = .ok (.string sS) w') (first | assumption | (dsimp only; assumption)) (first | (refine step_append_own (by rfl) _ _ 22 (by rfl) wr.heap.size 5 j0 (.int .u8 0) 1 1 Try.underlying22 ji jz0 jz1 jz2 rfl (by decide) _ 0 [] (by rfl) HO1.out A n (cap - (p + 8)) (bytesV sD) (by rfl) (by simp [bytesV, hdl]) HA1.out (bytesV_one sD) (by unfold maxLen; omega) (by omega) (by simp) ?_; intro v5 w5 hown5 hgrow5; obtain ⟨a5, c5, rfl, ho5, hb5⟩ := tail1 hown5 hgrow5; have hcd5 := HCV.out w5 hb5; have hcd5' := HCV.out (w5.alloc (.cells #[.string sS, .slice a5 n c5] 56)) (hb5.alloc hb5.size _); have HH5 := hidden (And.intro ho5 hb5); clear hown5 hgrow5 ho5 hb5) | (refine step_append_own (by rfl) _ _ 50 (by rfl) w.heap.size 56 i0 (.agg #[.string ⟨#[]⟩, .slice none 0 0]) 2 40 Try.underlying50 hi hz0 hz1 hz2 rfl (by decide) _ kl (cksV ks) (by rfl) (own_alloc_len hkl (HG.out.below HH5.out.2) _) ⟨w5.heap.size, 0, none⟩ 1 1 [.string sS, .slice a5 n c5] (by rfl) rfl (cell_two_new w5 _ _ _) (by intro u hu; simp at hu; rcases hu with rfl | rfl <;> rfl) (by unfold maxLen; omega) (by omega) (by have := HBL.out.size; have := HH5.out.2.size; simp; omega) ?_; intro v6 w6 hown6 hgrow6; obtain ⟨a6, c6, rfl, hg6, hb6⟩ := tail2 hkl HBL.out HG.out HH5.out.1 HH5.out.2 hown6 hgrow6; have hcd6 := HCW.out w6 hb6))
              all_goals (try go_wp2_with fail)
              all_goals go_meet
              all_goals exact ⟨a5, c5, a6, c6, rfl, hg6, hb6⟩
            case rest =>
              clear HG hbl HBL hAc HA1 hcd hcd2 HO1 hsl hsl2
              obtain ⟨a2, c2, ao3, cv3, rfl, hg3, hb3⟩ := hcut
              have HG3 := hidden hg3
              clear hg3
              have hs3 := hb3.size
              go_wp2
              go_roundw
              case rel =>
                have hl1 : (ks ++ [(⟨sS, a2, n, c2, sD⟩ : Ck)]).length = kl + 1 := by simp [hkl]
                refine ⟨F', p + (8 + n + n % 2), ks ++ [⟨sS, a2, n, c2, sD⟩], ao3, cv3, by omega, by omega, by omega, by rw [hl1]; omega, int_eq (by omega), by rw [hl1], ?_, ?_, ?_, hb3⟩
                · exact HG3.out
                · have := HST.out
                  refine hidden ?_
                  rw [List.map_append, show p + (8 + n + n % 2) = p + 8 + n + n % 2 by omega]
                  exact this
                · intro k hk
                  rcases List.mem_append.1 hk with h' | h'
                  · exact HAll.out k h'
                  · rw [List.mem_singleton.1 h']; exact ⟨hdl, HDO.out, hsp⟩
              case measure => simp [intOf]; omega
        · obtain rfl : p = L := by omega
          rw [if_pos (Nat.le_refl _)] at HST
          have hR : R = (ks.map scOf, 0, (p : Int)) := HST.out.symm
          subst hR
          clear HST
          have hpne : ((p : Int) != (p : Int)) = false := by simp
          have e8 := HE8.out wr hbl
          go_wp2
          refine bodyPost_ret (v := .tuple #[.string S8, .slice ao ks.length cv, .int .i64 0, .int .i64 p]) (by simp [results, Try.results23, go_sem]) rfl ?_
          exact ⟨hbl, .inr ⟨rfl, rfl, ao, cv, ks, rfl, HG.out, rfl, HAll.out, hk1⟩⟩
end Go.Proofs.Ytedihackifchcaa
