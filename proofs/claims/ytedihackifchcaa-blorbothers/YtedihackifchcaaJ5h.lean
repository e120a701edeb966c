/- The walk of iff.Parse over a form's bytes. -/
import Derived.Test.YtedihackifchcaaJ5g
import Derived.Deep.RegionHeld3
namespace Go.Proofs.Ytedihackifchcaa
open Go.RowKit
set_option maxHeartbeats 1000000
set_option maxRecDepth 100000
set_option linter.unusedVariables false

theorem own_slice {w : World} {B e size n : Nat} {v : Value} {xs : List Value} (h : w.ownsRow B e size v n xs) : ∃ ao cv, v = .slice ao n cv := by
  rcases h.2 with ⟨rfl, rfl⟩ | ⟨g, cap, cur, rfl, _⟩
  · exact ⟨_, _, rfl⟩
  · exact ⟨_, _, rfl⟩
theorem clone_plain {wr w2 : World} {a2 : Option Addr} {n c2 : Nat} {d : List Int} (hb2 : Below wr.drew.heap.size wr.drew w2) (ho2 : w2.ownsRow wr.drew.heap.size 5 1 (.slice a2 n c2) n (bytesV d)) :
    Below wr.heap.size wr w2 ∧ w2.ownsRow wr.heap.size 5 1 (.slice a2 n c2) n (bytesV d) := ⟨((Below.refl wr.heap.size wr).drew).trans hb2, ho2⟩
theorem clone_boxed {wr w2 : World} {a2 : Option Addr} {n c2 : Nat} {d : List Int} (hb2 : Below (wr.alloc (.cells #[.string ⟨#[]⟩, .slice none 0 0] 56)).drew.heap.size (wr.alloc (.cells #[.string ⟨#[]⟩, .slice none 0 0] 56)).drew w2)
    (ho2 : w2.ownsRow (wr.alloc (.cells #[.string ⟨#[]⟩, .slice none 0 0] 56)).drew.heap.size 5 1 (.slice a2 n c2) n (bytesV d)) :
    w2.cell? ⟨wr.heap.size, 0, none⟩ = some (.string ⟨#[]⟩) ∧ w2.cell? ⟨wr.heap.size, 1, none⟩ = some (.slice none 0 0) ∧ w2.frozen? ⟨wr.heap.size, 0, none⟩ = false ∧ w2.frozen? ⟨wr.heap.size, 1, none⟩ = false ∧ Below wr.heap.size wr w2 ∧
      w2.ownsRow wr.heap.size 5 1 (.slice a2 n c2) n (bytesV d) ∧ w2.heap[wr.heap.size]? = some (.cells #[.string ⟨#[]⟩, .slice none 0 0] 56 (0, 0)) := by
  have hs : (wr.alloc (.cells #[.string ⟨#[]⟩, .slice none 0 0] 56)).drew.heap.size = wr.heap.size + 1 := by simp
  have hg : w2.heap[wr.heap.size]? = some (.cells #[.string ⟨#[]⟩, .slice none 0 0] 56 (0, 0)) := (hb2.block wr.heap.size (by rw [hs]; omega)).trans (heap_alloc_new wr _)
  refine ⟨by simp [World.cell?, hg], by simp [World.cell?, hg], by simp [World.frozen?, hg], by simp [World.frozen?, hg], (((Below.refl wr.heap.size wr).alloc (Nat.le_refl _) _).drew).trans (hb2.mono (by rw [hs]; omega)), own_base ho2 (by rw [hs]; omega), hg⟩
theorem clone_set {wr w2 : World} {a2 : Option Addr} {n c2 : Nat} {d : List Int} (hb2 : Below (wr.alloc (.cells #[.string ⟨#[]⟩, .slice none 0 0] 56)).drew.heap.size (wr.alloc (.cells #[.string ⟨#[]⟩, .slice none 0 0] 56)).drew w2)
    (ho2 : w2.ownsRow (wr.alloc (.cells #[.string ⟨#[]⟩, .slice none 0 0] 56)).drew.heap.size 5 1 (.slice a2 n c2) n (bytesV d)) (s : ByteArray) :
    Box ((w2.setCell ⟨wr.heap.size, 0, none⟩ (.string s)).setCell ⟨wr.heap.size, 1, none⟩ (.slice a2 n c2)) wr.heap.size s a2 n c2 ∧
      ((w2.setCell ⟨wr.heap.size, 0, none⟩ (.string s)).setCell ⟨wr.heap.size, 1, none⟩ (.slice a2 n c2)).ownsRow wr.heap.size 5 1 (.slice a2 n c2) n (bytesV d) ∧
      Below wr.heap.size wr ((w2.setCell ⟨wr.heap.size, 0, none⟩ (.string s)).setCell ⟨wr.heap.size, 1, none⟩ (.slice a2 n c2)) := by
  obtain ⟨z0, z1, z2, z3, hb3, ho3, hg⟩ := clone_boxed hb2 ho2
  have hs : (wr.alloc (.cells #[.string ⟨#[]⟩, .slice none 0 0] 56)).drew.heap.size = wr.heap.size + 1 := by simp
  refine ⟨?_, own_base (ownsRow_setCell_below (ownsRow_setCell_below ho2 (by rw [hs]; exact Nat.lt_succ_self _) _) (by rw [hs]; exact Nat.lt_succ_self _) _) (by rw [hs]; omega), (hb3.setCell (Nat.le_refl _) _).setCell (Nat.le_refl _) _⟩
  exact heap_setCell_same _ _ 1 _ _ _ (heap_setCell_same _ _ 0 _ _ _ hg)
theorem cell_two_new (w : World) (x y : Value) (t : TypeId) : ∀ j u, [x, y][j]? = some u → (w.alloc (.cells #[x, y] t)).cell? ((⟨w.heap.size, 0, none⟩ : Addr).add j) = some u := by
  intro j u hj
  match j, hj with
  | 0, hj => simp at hj; subst hj; simp [Addr.add]
  | 1, hj => simp at hj; subst hj; simp [Addr.add]
  | (j + 2), hj => simp at hj
/-- one chunk more -/
theorem got_snoc {B : Nat} {w w3 : World} {v v3 : Value} {ks : List Ck} {c : Ck} (o : Obj) (h : Got B w v ks) (hd : w.ownsRow B 5 1 (.slice c.a c.l c.c) c.l (bytesV c.d)) (h3 : w3.ownsRow B 56 2 v3 (ks.length + 1) (cksV ks ++ [.string c.id, .slice c.a c.l c.c])) (hg : (w.alloc o).grownBy w3 v.ownBlock) : Got B w3 v3 (ks ++ [c]) := by
  refine ⟨?_, fun k hk => ?_⟩
  · rw [List.length_append, cksV_snoc]; exact h3
  · have hk2 : w.ownsRow B 5 1 (.slice k.a k.l k.c) k.l (bytesV k.d) := by
      rcases List.mem_append.1 hk with h' | h'
      · exact h.2 k h'
      · rw [List.mem_singleton.1 h']; exact hd
    exact (hk2.alloc o).kept hg (own_ne hk2 h.1)
/-- what Parse answers of a form -/
def ParseRet (w : World) (s : ByteArray) (L : Nat) (cs : List Ck) (e : Ending) (w' : World) : Prop :=
  ∃ v ks, e = .returned (.tuple #[.string s, v, .int .i64 0, .int .i64 L]) ∧ Got w.heap.size w' v ks ∧ ks.map (·.id) = cs.map (·.id) ∧ ks.map (·.d) = cs.map (·.d) ∧ Below w.heap.size w w'
theorem parse_good (g o L cap : Nat) (zs : List Int) (s : ByteArray) (cs : List Ck) (w : World) (h : Bs w g o L zs) (hok : OkB zs) (hz : zs = formL s cs) (hs : IsId s) (hid : AllId cs) (hn : cs.length ≤ 1024) (hsz : sizes cs ≤ 1000000)
    (hd : ∀ k ∈ cs, k.d.length = k.l) (hcap : L ≤ cap) : Calls Try.prog 56 #[.slice (some ⟨g, o, none⟩) L cap] w (ParseRet w s L cs) := by
  obtain ⟨i0, hi, hz0, hz1, hz2⟩ := info_parts info59
  have hall : ∀ k ∈ cs, k.id.size = 4 ∧ k.d.length = k.l := fun k hk => ⟨(hid k hk).1, hd k hk⟩
  have hL : L = 12 + sizes cs := by rw [← h.1, hz]; exact form_len s cs hs.1 hall
  have hhead := form_head s cs hs.1 hsz
  rw [← hz, ← hL] at hhead
  have HBs := hidden h
  have HH := hidden (checkHead_good g o L cap zs w h hok (by omega) (by omega) hcap hhead.1 hhead.2.1 (by rw [hhead.2.2, strA_idI]; exact hs))
  have HI8 : Hid (∀ wx, Below w.heap.size w wx → Calls Try.prog 63 #[.slice (some ⟨g, o, none⟩) L cap, .int .i64 8] wx fun e w' => e = .returned (.string s) ∧ w' = wx) := hidden fun wx hb => by
    have := idAt_any g o L cap 8 zs wx (h.later hb) hok (by omega) hcap (by omega)
    rw [hhead.2.2, strA_idI] at this
    exact this
  have HD : Hid (∀ k (hk : k < cs.length), zs.drop (12 + sizes (cs.take k)) = ckL cs[k].id cs[k].l cs[k].d ++ flat (cs.drop (k + 1))) := hidden fun k hk => by rw [hz]; exact form_drop s cs k hs.1 hall hk
  have HA := hidden hall
  have HId := hidden hid
  have hL2 : L ≤ 1000012 := by omega
  have hLi : (L : Int) ≤ 1000012 := by omega
  have HL := hidden hL
  clear h hall hz hhead hid hd hs hL
  go_enter Try.func56, Try.ntmps56
  go_wp2_with (go_at_call 61; refine HH.out.mono ?_; rintro e w9 ⟨rfl, hw⟩; obtain rfl := hw.symm)
  go_loopw [3, 6] (fun v pv w' => ∃ (k : Nat) (ks : List Ck) (ao : Option Addr) (cv : Nat), k ≤ cs.length ∧ pv = .int .i64 ((12 + sizes (cs.take k) : Nat) : Int) ∧ v = .slice ao k cv ∧ Got w.heap.size w' v ks ∧ ks.map (·.id) = (cs.take k).map (·.id) ∧ ks.map (·.d) = (cs.take k).map (·.d) ∧ Below w.heap.size w w') (fun _ pv _ => L - (intOf pv).toNat)
  case atStart => exact ⟨0, [], none, 0, by omega, rfl, rfl, ⟨World.ownsRow_nil _ _ _ _, fun k hk => by cases hk⟩, rfl, rfl, Below.refl _ _⟩
  case round =>
    obtain ⟨k, ks, ao, cv, hk, rfl, rfl, hgot, hids, hds, hbl⟩ := hrel
    have HG := hidden hgot
    have HID := hidden hids
    have HDS := hidden hds
    clear hgot hids hds
    have hs1 := hbl.size
    by_cases hlt : k < cs.length
    · have hsn := sizes_snoc cs k hlt
      have hle := sizes_le cs (k + 1)
      have hLe := HL.out
      have hdr := HD.out k hlt
      have hal := HA.out _ (List.getElem_mem hlt)
      have hidk := HId.out _ (List.getElem_mem hlt)
      have hckl : ckSize cs[k] = 8 + cs[k].l + cs[k].l % 2 := rfl
      obtain ⟨q1, q2, q3, q4⟩ := ck_parts cs[k].id cs[k].l cs[k].d (flat (cs.drop (k + 1))) hal.1 hal.2 (by omega)
      rw [← hdr] at q1 q2 q3 q4
      rw [← seg_drop, Nat.add_zero] at q1
      rw [← seg_drop] at q3
      rw [beV_drop, List.drop_drop, ← beV_drop] at q2
      rw [← getD_drop] at q4
      generalize hp : 12 + sizes (cs.take k) = p at *
      have HK := hidden (checkChunk_good g o L cap p cs[k].l zs wr (HBs.out.later hbl) hok (by omega) hcap (by omega) q2 (by rw [q1, strA_idI]; exact hidk) (fun h => by rw [Nat.add_assoc]; exact q4 h))
      have hpL : (p : Int) < (L : Int) := by omega
      have hk1024 : ((k : Int) == 1024) = false := by simp; omega
      have HId2 : Hid (∀ wx, Below wr.heap.size wr wx → Calls Try.prog 63 #[.slice (some ⟨g, o, none⟩) L cap, .int .i64 (p : Int)] wx fun e w' => e = .returned (.string cs[k].id) ∧ w' = wx) := hidden fun wx hb => by
        have := idAt_any g o L cap p zs wx (HBs.out.later (hbl.trans (hb.mono hs1))) hok (by omega) hcap (by omega)
        rw [q1, strA_idI] at this
        exact this
      have HQ3 := hidden q3
      have hn63 : cs[k].l ≤ 1000000 := by omega
      have hpl : p + 8 + cs[k].l + cs[k].l % 2 ≤ L := by omega
      have HNX : Hid (12 + sizes (cs.take (k + 1)) = p + (8 + cs[k].l + cs[k].l % 2)) := hidden (by omega)
      have HAL := hidden hal
      clear hsn hle hLe hdr hal hidk hckl q1 q2 q3 q4 hp
      generalize hck : cs[k] = c at *
      have HCK := hidden hck
      clear hck
      go_upto_region 12 with (go_at_call 62; refine HK.out.mono ?_; rintro e w9 ⟨rfl, hw⟩; obtain rfl := hw.symm)
      have g1 : (p : Int) + 8 + (c.l : Int) ≤ (cap : Int) := by omega
      have g2 : (p : Int) + 8 ≤ (p : Int) + 8 + (c.l : Int) := by omega
      have g3 : ((p : Int) + 8).toNat = p + 8 := by omega
      have g4 : ((p : Int) + 8 + (c.l : Int)).toNat = p + 8 + c.l := by omega
      have g5 : p + 8 + c.l - (p + 8) = c.l := by omega
      have g6 : (0 : Int) ≤ (p : Int) + 8 := by omega
      have g7 : (c.l : Int) ≤ 1000000 := by omega
      have g8 : (0 : Int) ≤ (c.l : Int) := by omega
      have g9 : (p : Int) ≤ 1000012 := by omega
      have g10 : (p : Int) + 8 + (c.l : Int) ≤ 9223372036854775807 := by omega
      obtain ⟨A, hA, hAc⟩ : ∃ A : Addr, (if cap = p + 8 then some (⟨g, o, none⟩ : Addr) else some ⟨g, o + (p + 8), none⟩) = some A ∧ Hid (∀ wx, Below wr.heap.size wr wx → ∀ i, i < c.l → wx.cell? (A.add i) = some (.int .u8 (c.d.getD i 0))) := by
        by_cases hcz : cap = p + 8
        · exact ⟨⟨g, o, none⟩, by simp [hcz], hidden fun wx hb i hi => by omega⟩
        · refine ⟨⟨g, o + (p + 8), none⟩, by simp [hcz], hidden fun wx hb i hi => ?_⟩
          have hB := HBs.out.later (hbl.trans (hb.mono hs1))
          rw [plain_add, Nat.add_assoc, hB.2 (p + 8 + i) (by omega), ← HQ3.out, seg_at _ _ _ _ hi (by rw [hB.1]; omega)]
      have HCl : Hid (∀ wx, Below wr.heap.size wr wx → Calls Try.prog 42 #[.slice (some A) c.l (cap - (p + 8))] wx fun e w' => ∃ a2 c2, e = .returned (.slice a2 c.l c2) ∧ w'.ownsRow wx.heap.size 5 1 (.slice a2 c.l c2) c.l (bytesV c.d) ∧ Below wx.heap.size wx w') := hidden fun wx hb =>
        (Try.bytes_Clone_at A c.l (cap - (p + 8)) c.d wx HAL.out.2 (by omega) (hAc.out wx hb)).mono (by
          rintro e w' ⟨v', rfl, ho, -, hb'⟩
          obtain ⟨ao, cv, rfl⟩ := own_slice ho
          exact ⟨ao, cv, rfl, ho, hb'⟩)
      have hsl : ∀ w, (Instr.sliceAt 22 (.slice (some ⟨g, o, none⟩) L cap) (some (.int .i64 ((p : Int) + 8))) (some (.int .i64 ((p : Int) + 8 + (c.l : Int)))) none).run Try.prog w = .ok (.slice (some A) c.l (cap - (p + 8))) w := fun w => by
        go_simp
      have g11 : IntKind.i64.wrap ((p : Int) + 8 + (c.l : Int)) = (p : Int) + 8 + (c.l : Int) := by rw [IntKind.wrap_i64]; omega
      go_cut [11] from 21 to 60 (fun cp wx => ∃ (gb : Nat) (a2 : Option Addr) (c2 : Nat), cp = .pointer (some ⟨gb, 0, none⟩) ∧ wr.heap.size ≤ gb ∧ Box wx gb c.id a2 c.l c2 ∧ wx.ownsRow wr.heap.size 5 1 (.slice a2 c.l c2) c.l (bytesV c.d) ∧ Below wr.heap.size wr wx)
      case first =>
        go_region_with (first | (go_at_call 63; refine (HId2.out _ (by repeat (first | exact Below.refl _ _ | assumption | apply Below.drew | (refine Below.alloc ?_ (by simp; try omega) _)))).mono ?_; rintro e w9 ⟨rfl, hw⟩; obtain rfl := hw.symm) | (go_at_call 42; (first | (with_reducible refine (HCl.out wr.drew ((Below.refl _ _).drew)).mono ?_; rintro e w2 ⟨a2, c2, rfl, ho2, hb2⟩; obtain ⟨hb3, ho3⟩ := clone_plain hb2 ho2) | (with_reducible refine (HCl.out (wr.alloc (.cells #[.string ⟨#[]⟩, .slice none 0 0] 56)).drew (((Below.refl _ _).alloc (Nat.le_refl _) _).drew)).mono ?_; rintro e w2 ⟨a2, c2, rfl, ho2, hb2⟩; obtain ⟨z0, z1, z2, z3, hb3, ho3, hz9⟩ := clone_boxed hb2 ho2))))
        all_goals (try go_wp2_with fail)
        all_goals go_meet
        all_goals first | exact ⟨w2.heap.size, a2, c2, rfl, hb3.size, Box.new _ _ _ _ _, ho3.alloc _, hb3.alloc hb3.size _⟩ | exact ⟨wr.heap.size, a2, c2, rfl, Nat.le_refl _, (clone_set hb2 ho2 c.id).1, (clone_set hb2 ho2 c.id).2.1, (clone_set hb2 ho2 c.id).2.2⟩
      case rest =>
        obtain ⟨gb, a2, c2, rfl, hgb, hbox, hod, hb2⟩ := hcut
        obtain ⟨b0, b1⟩ := hbox.cells
        have hG2 := HG.out.below hb2
        have hbw : Below w.heap.size w wc := hbl.trans (hb2.mono hs1)
        have hsz1 := hbw.size
        have hkl : ks.length = k := by have := congrArg List.length HID.out; simp at this; omega
        have HO := hidden (hG2.1.alloc (.cells #[.string c.id, .slice a2 c.l c2] 56))
        have HNw := hidden (cell_two_new wc (.string c.id) (.slice a2 c.l c2) 56)
        have HGB : Hid ((Value.slice ao k cv).ownBlock ≠ some gb) := hidden fun e => by have := (HG.out.1.lt gb e).2; omega
        have HG2 := hidden hG2
        have HX := hidden (hbox.alloc (.cells #[.string c.id, .slice a2 c.l c2] 56))
        have HOD := hidden (own_base hod hs1)
        rw [hkl] at HO
        clear hG2 hbox hod hb2 HG HCl HId2 HK hsl hAc
        go_wp2_with (at_builtin; refine wpList_append_own _ rfl (.tmp 53) (.tmp 55) 50 rfl w.heap.size 56 i0 (.agg #[.string ⟨#[]⟩, .slice none 0 0]) 2 40 Try.underlying50 hi hz0 hz1 hz2 rfl (by decide) _ _ _ rfl HO.out ⟨wc.heap.size, 0, none⟩ 1 1 [.string c.id, .slice a2 c.l c2] rfl rfl HNw.out (by intro u hu; simp at hu; rcases hu with rfl | rfl <;> rfl) (by unfold maxLen; omega) (by omega) (by simp; omega) ?_; intro v3 w3 hown3 hgrow3 hiff3; clear hiff3; refine Hid.out ?_)
        replace hgrow3 : (wc.alloc (.cells #[.string c.id, .slice a2 c.l c2] 56)).grownBy w3 (Value.slice ao k cv).ownBlock := hgrow3
        have hb3 : Below w.heap.size w w3 := (hbw.alloc hsz1 _).grown hgrow3 (by simp; omega) (fun j hj => (HO.out.lt j hj).1)
        obtain ⟨y0, y1⟩ := (HX.out.grown hgrow3 HGB.out).cells
        rw [← hkl] at hown3
        have HG3 := hidden (got_snoc (c := ⟨c.id, a2, c.l, c2, c.d⟩) _ HG2.out HOD.out hown3 hgrow3)
        obtain ⟨ao3, cv3, rfl⟩ := own_slice hown3
        rw [hkl] at HG3
        have hs3 := hb3.size
        clear hown3 hgrow3 HO HNw HX HOD HG2 b0 b1
        rw [hkl]
        refine hidden ?_
        go_wp2
        go_roundw
        case rel =>
          have htk : cs.take (k + 1) = cs.take k ++ [cs[k]] := List.take_succ_eq_append_getElem hlt
          refine ⟨k + 1, ks ++ [⟨c.id, a2, c.l, c2, c.d⟩], ao3, cv3, by omega, int_eq (by rw [HNX.out]; omega), rfl, HG3.out.below ((Below.refl _ _).alloc (Nat.le_refl _) _), ?_, ?_, hb3.alloc hs3 _⟩
          · rw [htk, List.map_append, List.map_append, HID.out, ← HCK.out]; rfl
          · rw [htk, List.map_append, List.map_append, HDS.out, ← HCK.out]; rfl
        case measure => simp [intOf]; omega
    · obtain rfl : k = cs.length := by omega
      have hse : cs.take cs.length = cs := List.take_of_length_le (Nat.le_refl _)
      have hpL : 12 + sizes (cs.take cs.length) = L := by rw [hse]; exact HL.out.symm
      rw [hse] at HID HDS
      rw [hpL]
      clear hse hpL
      go_wp2_with (go_at_call 63; refine (HI8.out _ hbl).mono ?_; rintro e w9 ⟨rfl, hw⟩; obtain rfl := hw.symm)
      refine bodyPost_ret (v := .tuple #[.string s, .slice ao cs.length cv, .int .i64 0, .int .i64 L]) (by simp [results, Try.results56, go_sem]) rfl ?_
      exact ⟨_, ks, rfl, HG.out, HID.out, HDS.out, hbl⟩
end Go.Proofs.Ytedihackifchcaa
