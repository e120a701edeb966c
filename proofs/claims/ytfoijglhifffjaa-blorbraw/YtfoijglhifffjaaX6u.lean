/- The walk of BlorbRaw: the game in a container is the game, whatever stands ahead of it and behind it; bytes that begin as a game does are the game. -/
import Derived.Test.YtfoijglhifffjaaX6t
namespace Go.Proofs.Ytfoijglhifffjaa
open Go.RowKit
set_option maxHeartbeats 1000000
set_option maxRecDepth 100000
set_option linter.unusedVariables false

/-- a row of one's own with resources that came in laid behind it -/
theorem append_rks {w : World} {ops : Array Oper} {rest : List Oper} {o : Oper} {a : Act} {Q : Exit → Act → World → Prop} (hgd : o.guard = none) (s x : Operand) (ho : o.op = .call { callee := .builtin .append, args := #[s, x], argTypes := #[25, 25] })
    (B : Nat) (v : Value) (n : Nat) (xs : List Value) (hs : a.eval s = v) (hown : w.ownsRow B 42 4 v n xs) (a2 : Option Addr) (n2 c2 : Nat) (rs : List Rk) (hx : a.eval x = .slice a2 n2 c2) (hr : Rks w a2 n2 c2 rs) (h0 : n2 = 0 → c2 = 0 ∨ a2 ≠ none) (hn : n ≤ 1000) (hn2 : n2 ≤ 1000) (hB : B ≤ w.heap.size)
    (hK : ∀ v' w', w'.ownsRow B 42 4 v' (n + n2) (xs ++ rksV rs) → w.grownBy w' v.ownBlock → wpList Try.prog ops Q rest (a.put o.dst v') w') : wpList Try.prog ops Q (o :: rest) a w := by
  obtain ⟨i0, hi, hz0, hz1, hz2⟩ := info_parts infoRs
  have hrl := hr.1
  cases a2 with
  | none =>
    have hn0 : n2 = 0 := by
      rcases hr.2.2.1 with h | ⟨b, off, e, _⟩
      · exact h
      · cases e
    subst hn0
    obtain rfl : c2 = 0 := by
      rcases h0 rfl with h | h
      · exact h
      · exact absurd rfl h
    obtain rfl := List.eq_nil_of_length_eq_zero hrl
    refine wpList_append_own_none hgd s x 25 ho B 42 i0 4 Try.underlying25 hi v n xs hs hown hx ?_
    exact hK v w (by simpa [rksV] using hown) ⟨rfl, rfl, rfl, Nat.le_refl _, fun _ _ _ => rfl⟩
  | some y =>
    exact wpList_append_own w hgd s x 25 ho B 42 i0 _ 4 64 Try.underlying25 hi hz0 hz1 hz2 rfl (by decide) v n xs hs hown y n2 c2 (rksV rs) hx (by rw [rksV_len, hrl]) (rks_news hr) (rksV_one rs) (by unfold maxLen; omega) (by omega) hB (fun v' w' h1 h2 _ => hK v' w' h1 h2)
/-- what is laid in BlorbRaw -/
abbrev gameRk (a : Option Addr) (l c : Nat) (d : List Int) : Rk := ⟨EXEC, 0, GLUL, a, l, c, d⟩
theorem check_game (a : Option Addr) (l c : Nat) (d : List Int) : checkR [gameRk a l c d] = 0 := by
  have h1 : AllIdR [gameRk a l c d] := fun r hr => by rw [List.mem_singleton.1 hr]; exact ⟨id_exec, id_glul⟩
  have h2 : ApartR [gameRk a l c d] := List.pairwise_singleton _ _
  unfold checkR
  rw [if_neg (not_not_intro h1), if_neg (by simp), if_neg (not_not_intro h2)]
theorem sizes_eq {rs rs2 : List Rk} (h : rs2.map srOf = rs.map srOf) (h1 : ∀ r ∈ rs, r.d.length = r.l) (h2 : ∀ r ∈ rs2, r.d.length = r.l) : sizes (rs2.map ckOf) = sizes (rs.map ckOf) := by
  rw [sizes_ssz _ (fun k hk => by obtain ⟨r, hr, rfl⟩ := List.mem_map.1 hk; exact h2 r hr), sizes_ssz _ (fun k hk => by obtain ⟨r, hr, rfl⟩ := List.mem_map.1 hk; exact h1 r hr)]
  have e : ∀ l : List Rk, (l.map ckOf).map scOf = (l.map srOf).map ckS := fun l => by rw [List.map_map, List.map_map]; rfl
  rw [e, e, h]
theorem g4_ok {gd : List Int} (h : OkB gd) : OkB (G4 ++ gd) := append_bd _ _ (by unfold G4; decide) h
theorem bs_reads {w : World} {g L cap : Nat} {zs : List Int} (h : Bs w g 0 L zs) (hc : L ≤ cap) : Reads w (some ⟨g, 0, none⟩) L cap zs := ⟨h.1, hc, .inr ⟨_, rfl, fun i hi => by rw [plain_add]; exact h.2 i hi⟩⟩
set_option maxHeartbeats 2000000 in
theorem raw_any (a0 : Option Addr) (n0 c0 : Nat) (rs0 : List Rk) (a1 : Option Addr) (n1 c1 : Nat) (gd : List Int) (a2 : Option Addr) (n2 c2 : Nat) (rs2 : List Rk) (w : World) (h0 : IsRks w a0 n0 c0 rs0) (hr : Reads w a1 n1 c1 gd) (hok : OkB gd) (hb63 : n1 ≤ 9223372036854775807) (h2 : IsRks w a2 n2 c2 rs2) (hnil : n2 = 0 → c2 = 0 ∨ a2 ≠ none) :
    Calls Try.prog 5 #[.slice a0 n0 c0, .slice a1 n1 c1, .slice a2 n2 c2] w fun e w' => e = .returned (.bool true) ∧ Below w.heap.size w w' := by
  obtain ⟨i0, hi, hz0, hz1, hz2⟩ := info_parts infoRs
  have HL := hidden live_any
  have HH0 := hidden (huge6 200 a0 n0 c0 rs0 w h0 (by decide))
  have HH2 : Hid (∀ wx, Below w.heap.size w wx → Calls Try.prog 14 #[.slice a2 n2 c2, .int .i64 200, .int .i64 65536] wx (HugeR wx 200 n2 rs2)) := hidden fun wx hb => huge6 200 a2 n2 c2 rs2 wx ⟨h2.1.later hb, h2.2⟩ (by decide)
  have HC0 := hidden h0.1
  have HC2 := hidden h2.1
  have hlen0 := h0.1.1
  have hlen2 := h2.1.1
  have HRd := hidden hr
  have hn1 : (n1 : Int) ≤ 9223372036854775807 := by omega
  have hm0 := h0.2.1
  have hm2 := h2.2.1
  clear h0 h2 hr
  go_enter Try.func5, Try.ntmps5
  go_wp2_with fail
  refine HH0.out.mono ?_
  rintro e w1 ⟨rfl | ⟨rfl, hl0, ht0⟩, hb1⟩
  · have HB := hidden hb1
    clear hb1
    go_wp2_with (go_at_call 7; refine (HL.out _).mono ?_; rintro e w9 ⟨rfl, hb⟩)
    go_ret
    exact ⟨rfl, HB.out.trans (hb.mono HB.out.size)⟩
  have HHx := hidden (HH2.out w1 hb1)
  have HB1 := hidden hb1
  clear hb1 HH0 HH2
  go_wp2_with fail
  refine HHx.out.mono ?_
  rintro e w2 ⟨rfl | ⟨rfl, hl2, ht2⟩, hb2⟩
  · have HB := hidden (HB1.out.trans (hb2.mono HB1.out.size))
    clear hb2
    go_wp2_with (go_at_call 7; refine (HL.out _).mono ?_; rintro e w9 ⟨rfl, hb⟩)
    go_ret
    exact ⟨rfl, HB.out.trans (hb.mono HB.out.size)⟩
  have HB2 := hidden (HB1.out.trans (hb2.mono HB1.out.size))
  clear hb2 HB1 HHx
  by_cases hbig : 65536 < n1
  · have hbi : (65536 : Int) < (n1 : Int) := by omega
    go_wp2_with (go_at_call 7; refine (HL.out _).mono ?_; rintro e w9 ⟨rfl, hb⟩)
    go_ret
    exact ⟨rfl, HB2.out.trans (hb.mono HB2.out.size)⟩
  have hbi : ¬ (65536 : Int) < (n1 : Int) := by omega
  have hsz0 : sizes (rs0.map ckOf) ≤ 100000 := by have := totR_sizes rs0; omega
  have hsz2 : sizes (rs2.map ckOf) ≤ 100000 := by have := totR_sizes rs2; omega
  have HCp := hidden (copy_any a0 n0 c0 rs0 w2 (HC0.out.later HB2.out) (by omega) (by omega))
  go_wp2_with fail
  refine HCp.out.mono ?_
  rintro e w3 ⟨hb3, ao, cv, rs1, rfl, hgot, hmap⟩
  have hl1 : rs1.length = n0 := by have := congrArg List.length hmap; simp at this; omega
  have hB3 := HB2.out.trans (hb3.mono HB2.out.size)
  have HB3 := hidden hB3
  have hs3 := hB3.size
  have hs23 := hb3.size
  have HO := hidden ((hgot.1).alloc (.cells #[.string EXEC, .int .u32 0, .string GLUL, .slice a1 n1 c1] 42))
  have HN := hidden (cell_four_new w3 (.string EXEC) (.int .u32 0) (.string GLUL) (.slice a1 n1 c1) 42)
  have HGOT := hidden hgot
  have HMAP := hidden hmap
  rw [hl1] at HO
  rw [hl1]
  have HB23 := hidden hb3
  clear hgot hmap HCp hb3 hB3
  go_wp2_with (at_builtin; refine wpList_append_own _ rfl (.tmp 30) (.tmp 33) 25 rfl w2.heap.size 42 i0 (.agg #[.string ⟨#[]⟩, .int .u32 0, .string ⟨#[]⟩, .slice none 0 0]) 4 64 Try.underlying25 hi hz0 hz1 hz2 rfl (by decide) _ _ _ rfl HO.out ⟨w3.heap.size, 0, none⟩ 1 1 [.string EXEC, .int .u32 0, .string GLUL, .slice a1 n1 c1] rfl rfl HN.out (by intro u hu; simp at hu; rcases hu with rfl | rfl | rfl | rfl <;> rfl) (by unfold maxLen; omega) (by omega) (by simp; omega) ?_; intro v4 w4 hown4 hgrow4 hiff4; clear hiff4; refine Hid.out ?_)
  replace hgrow4 : (w3.alloc (.cells #[.string EXEC, .int .u32 0, .string GLUL, .slice a1 n1 c1] 42)).grownBy w4 (Value.slice ao n0 cv).ownBlock := hgrow4
  have hb4 : Below w2.heap.size w2 w4 := by
    have h3 : Below w2.heap.size w2 w3 := HB23.out
    exact (h3.alloc hs23 _).grown hgrow4 (by simp; omega) (fun j hj => (HO.out.lt j hj).1)
  have hs4 := hb4.size
  have hB4 := HB2.out.trans (hb4.mono HB2.out.size)
  have HO4 := hidden hown4
  have HC2' := hidden (HC2.out.later hB4)
  have hdat4 : ∀ r ∈ rs1, w4.ownsRow w2.heap.size 5 1 (.slice r.a r.l r.c) r.l (bytesV r.d) := fun r hr => ((HGOT.out.2 r hr).alloc _).kept hgrow4 (own_apart ((HGOT.out.2 r hr).alloc _) HO.out (by decide))
  have HD4 := hidden hdat4
  clear hown4 hgrow4 HO HN hdat4
  refine hidden ?_
  go_wp2_with (at_builtin; refine append_rks rfl (.tmp 34) (.tmp 35) rfl w2.heap.size _ _ _ rfl HO4.out a2 n2 c2 rs2 rfl HC2'.out hnil (by omega) (by omega) hs4 ?_; intro v5 w5 hown5 hgrow5; refine Hid.out ?_)
  replace hgrow5 : w4.grownBy w5 v4.ownBlock := hgrow5
  have hb5 : Below w2.heap.size w2 w5 := hb4.grown hgrow5 hs4 (fun j hj => (HO4.out.lt j hj).1)
  have hB5 := HB2.out.trans (hb5.mono HB2.out.size)
  obtain ⟨av, kv, rfl⟩ := own_slice hown5
  obtain ⟨rs, hrs⟩ : ∃ rs, rs = rs1 ++ [gameRk a1 n1 c1 gd] ++ rs2 := ⟨_, rfl⟩
  have hlr : rs.length = n0 + 1 + n2 := by rw [hrs]; simp; omega
  have hown6 : w5.ownsRow w2.heap.size 42 4 (.slice av (n0 + 1 + n2) kv) (n0 + 1 + n2) (rksV rs) := by
    rw [hrs, rksV_app, rksV_app]
    exact hown5
  have hsrc : ∀ r ∈ rs0, Reads w r.a r.l r.c r.d ∧ OkB r.d ∧ 0 ≤ r.x ∧ r.x ≤ 4294967295 := HC0.out.2.2.2
  have hr1 : ∀ r ∈ rs1, Reads w5 r.a r.l r.c r.d ∧ OkB r.d ∧ 0 ≤ r.x ∧ r.x ≤ 4294967295 := fun r hr => by
    have hm : srOf r ∈ rs1.map srOf := List.mem_map.2 ⟨r, hr, rfl⟩
    rw [HMAP.out] at hm
    obtain ⟨r0, hr0, e⟩ := List.mem_map.1 hm
    have hx : r.x = r0.x := (congrArg (fun s => s.2.1) e).symm
    have hd : r.d = r0.d := (congrArg (fun s => s.2.2.2) e).symm
    have h0 := hsrc r0 hr0
    have ho : w5.ownsRow w2.heap.size 5 1 (.slice r.a r.l r.c) r.l (bytesV r.d) := (HD4.out r hr).kept hgrow5 (own_apart (HD4.out r hr) HO4.out (by decide))
    exact ⟨(reads_own ho).1, by rw [hd]; exact h0.2.1, by rw [hx]; exact h0.2.2.1, by rw [hx]; exact h0.2.2.2⟩
  have hrk : Rks w5 av (n0 + 1 + n2) kv rs := own_rks hown6 hlr (fun r hr => by
    rw [hrs] at hr
    rcases List.mem_append.1 hr with h | h
    · rcases List.mem_append.1 h with h | h
      · exact hr1 r h
      · rw [List.mem_singleton.1 h]; exact ⟨HRd.out.later hB5, hok, Int.le_refl _, by show (0 : Int) ≤ 4294967295; decide⟩
    · have := HC2.out.2.2.2 r h
      exact ⟨this.1.later hB5, this.2⟩)
  have hsz : sizes (rs.map ckOf) ≤ 900000 := by
    rw [hrs, List.map_append, List.map_append, sizes_app, sizes_app]
    have e1 : sizes (rs1.map ckOf) = sizes (rs0.map ckOf) := sizes_eq HMAP.out (fun r hr => (hsrc r hr).1.1) (fun r hr => (hr1 r hr).1.1)
    have e2 : sizes ([gameRk a1 n1 c1 gd].map ckOf) = 8 + n1 + n1 % 2 := by simp [sizes, ckSize, ckOf]
    omega
  have HLa := hidden (lay_any av (n0 + 1 + n2) kv rs w5 hrk (by omega) hsz)
  have HRK := hidden hrk
  have hidx : n0 < (rs.map srOf).length := by rw [List.length_map]; omega
  have HIX : Hid (∀ hh, (rs.map srOf)[n0]'hh = (EXEC, 0, GLUL, gd)) := hidden fun hh => by
    simp only [hrs]
    rw [List.getElem_map]
    have e : (rs1 ++ [gameRk a1 n1 c1 gd] ++ rs2)[n0]'(by simp; omega) = gameRk a1 n1 c1 gd := by
      rw [List.getElem_append_left (by simp; omega), List.getElem_append_right (by omega)]
      simp [hl1]
    simp only [List.append_assoc] at e ⊢
    rw [e]
    rfl
  have HCK : Hid (n0 + n2 = 0 → checkR rs = 0) := hidden fun h => by
    have e1 : rs1 = [] := List.eq_nil_of_length_eq_zero (by omega)
    have e2 : rs2 = [] := List.eq_nil_of_length_eq_zero (by omega)
    rw [hrs, e1, e2]
    exact check_game a1 n1 c1 gd
  have HB5 := hidden hB5
  clear hown5 hgrow5 hown6 hrk hr1 hsrc hrs HO4 HD4 HC2' hb4 hb5 hB4 hB5 HGOT HMAP
  refine hidden ?_
  go_wp2_with fail
  refine HLa.out.mono ?_
  have hn1' : (n1 : Int) ≤ 65536 := by omega
  have hn0i : (n0 : Int) ≤ 200 := by omega
  have hn2i : (n2 : Int) ≤ 200 := by omega
  rintro e w6 ⟨hb6, ⟨hne, rfl⟩ | ⟨hz, v, rfl, ho⟩⟩
  · have hne2 : (checkR rs == 0) = false := by simpa using hne
    have hpos : ((n0 : Int) + (n2 : Int) == 0) = false := by
      have : ¬ (n0 + n2 = 0) := fun h => hne (HCK.out h)
      simp; omega
    generalize checkR rs = E at *
    have hB6 := HB5.out.trans (hb6.mono HB5.out.size)
    have HB6 := hidden hB6
    obtain ⟨g, c, w7, hap, hgc, hBs, hb7⟩ := raw_append w6 22 a1 n1 c1 gd (HRd.out.later hB6) (by omega)
    have hcv := Lib.run_convert_bytes_const (P := Try.prog) w6 22 5 #[.int .u8 71, .int .u8 108, .int .u8 117, .int .u8 108] 4 4 Try.underlying22 Try.underlying5
    simp only [List.size_toArray, List.length_cons, List.length_nil, Nat.zero_add, Nat.reduceAdd] at hcv
    have HGr := hidden (game_any g 0 (4 + n1) c (G4 ++ gd) w7 hBs (g4_ok hok) (by omega) hgc)
    rw [game_raw gd] at HGr
    have HB7 := hidden (hB6.trans (hb7.mono hB6.size))
    have HR7 := hidden (bs_reads hBs hgc)
    have hgl := HRd.out.1
    have hzl : ((G4 ++ gd).length : Int) = ((4 + n1 : Nat) : Int) := by simp [hgl]; omega
    rw [hzl] at HGr
    clear hB6 hBs hb7 hne hb6 HB6
    go_wp2_with (first | (go_at_call 12; refine (num6 _ _).mono ?_; rintro e w9 ⟨rfl, hw⟩; obtain rfl := hw.symm) | (at_builtin; refine Lib.wpList_append_run_sl _ rfl (.tmp 73) (.tmp 74) 22 rfl _ _ rfl rfl hap ?_; refine Hid.out ?_))
    clear hap hcv
    refine hidden ?_
    go_wp2_with fail
    refine HGr.out.mono ?_
    rintro e w8 ⟨hb8, ⟨hne, rfl⟩ | ⟨-, a8, l8, c8, rfl, ho8, -⟩⟩
    · exact absurd rfl hne
    have hl8 : l8 = 4 + n1 := by
      have h1 := ho8.1
      simp [bytesV, hgl] at h1
      omega
    subst hl8
    have HS8 := hidden (same_eq a8 (some ⟨g, 0, none⟩) (4 + n1) c8 (4 + n1) c (G4 ++ gd) w8 (g4_ok hok) (reads_own ho8).1 (HR7.out.later hb8))
    have HB8 := hidden (HB7.out.trans (hb8.mono HB7.out.size))
    clear ho8 hb8 HGr HR7 HB7
    go_wp2_with (first | (go_at_call 12; refine (num6 _ _).mono ?_; rintro e w9 ⟨rfl, hw⟩; obtain rfl := hw.symm) | (go_at_call 18; refine HS8.out.mono ?_; rintro e w9 ⟨rfl, hw⟩; obtain rfl := hw.symm) | (go_at_call 7; refine (HL.out _).mono ?_; rintro e w9 ⟨rfl, hb⟩))
    go_ret
    exact ⟨rfl, HB8.out.trans (hb.mono HB8.out.size)⟩
  have hlo := layOk_of HRK.out hz hsz
  have hZl := layS_len hlo
  have hZb := hlo.2.2.2
  have hZ5 := hlo.2.1
  have hL9 : (layS (rs.map srOf)).length ≤ 1000012 := by omega
  obtain ⟨g, c, rfl, hgc, hgb⟩ := owned_shape ho (by omega)
  have hBb := own_bs ho
  have hB6' := HB5.out.trans (hb6.mono HB5.out.size)
  have HB6' := hidden hB6'
  have HGm := hidden (game_any g 0 (layS (rs.map srOf)).length c (layS (rs.map srOf)) w6 hBb (layS_ok hlo) (by omega) hgc)
  rw [game_lay hlo n0 hidx gd (HIX.out _)] at HGm
  clear ho hb6 hBb HLa HB5 hz hZl hB6' HCK HIX hidx hlo
  generalize (layS (rs.map srOf)).length = T at *
  have hTi : (T : Int) ≤ 1000012 := by omega
  go_wp2_with (go_at_call 12; refine (num6 _ _).mono ?_; rintro e w9 ⟨rfl, hw⟩; obtain rfl := hw.symm)
  refine HGm.out.mono ?_
  rintro e w6b ⟨hb6b, ⟨hne, rfl⟩ | ⟨-, a3, l3, c3, rfl, ho3, -⟩⟩
  · exact absurd rfl hne
  have hB6 := HB6'.out.trans (hb6b.mono HB6'.out.size)
  have HB6 := hidden hB6
  have hl3 : l3 = n1 := by
    have h1 := ho3.1
    have h2 := HRd.out.1
    simp [bytesV] at h1
    omega
  subst hl3
  have HSm := hidden (same_eq a3 a1 l3 c3 l3 c1 gd w6b hok (reads_own ho3).1 (HRd.out.later hB6))
  clear ho3 hb6b HGm HB6'
  obtain ⟨g9, c9, w7, hap, hgc9, hBs, hb7⟩ := raw_append w6b 22 a1 l3 c1 gd (HRd.out.later hB6) (by omega)
  have hcv := Lib.run_convert_bytes_const (P := Try.prog) w6b 22 5 #[.int .u8 71, .int .u8 108, .int .u8 117, .int .u8 108] 4 4 Try.underlying22 Try.underlying5
  simp only [List.size_toArray, List.length_cons, List.length_nil, Nat.zero_add, Nat.reduceAdd] at hcv
  have HGr := hidden (game_any g9 0 (4 + l3) c9 (G4 ++ gd) w7 hBs (g4_ok hok) (by omega) hgc9)
  rw [game_raw gd] at HGr
  have HB7 := hidden (hB6.trans (hb7.mono hB6.size))
  have HR7 := hidden (bs_reads hBs hgc9)
  have hgl := HRd.out.1
  have hzl : ((G4 ++ gd).length : Int) = ((4 + l3 : Nat) : Int) := by simp [hgl]; omega
  rw [hzl] at HGr
  clear hB6 hBs hb7 HB6
  go_wp2_with (first | (go_at_call 12; refine (num6 _ _).mono ?_; rintro e w9 ⟨rfl, hw⟩; obtain rfl := hw.symm) | (go_at_call 18; refine HSm.out.mono ?_; rintro e w9 ⟨rfl, hw⟩; obtain rfl := hw.symm) | (at_builtin; refine Lib.wpList_append_run_sl _ rfl (.tmp 73) (.tmp 74) 22 rfl _ _ rfl rfl hap ?_; refine Hid.out ?_))
  clear hap hcv
  refine hidden ?_
  go_wp2_with fail
  refine HGr.out.mono ?_
  rintro e w8 ⟨hb8, ⟨hne, rfl⟩ | ⟨-, a8, l8, c8, rfl, ho8, -⟩⟩
  · exact absurd rfl hne
  have hl8 : l8 = 4 + l3 := by
    have h1 := ho8.1
    simp [bytesV, hgl] at h1
    omega
  subst hl8
  have HS8 := hidden (same_eq a8 (some ⟨g9, 0, none⟩) (4 + l3) c8 (4 + l3) c9 (G4 ++ gd) w8 (g4_ok hok) (reads_own ho8).1 (HR7.out.later hb8))
  have HB8 := hidden (HB7.out.trans (hb8.mono HB7.out.size))
  clear ho8 hb8 HGr HR7 HB7
  go_wp2_with (first | (go_at_call 12; refine (num6 _ _).mono ?_; rintro e w9 ⟨rfl, hw⟩; obtain rfl := hw.symm) | (go_at_call 18; refine HS8.out.mono ?_; rintro e w9 ⟨rfl, hw⟩; obtain rfl := hw.symm) | (go_at_call 7; refine (HL.out _).mono ?_; rintro e w9 ⟨rfl, hb⟩))
  go_ret
  exact ⟨rfl, HB8.out.trans (hb.mono HB8.out.size)⟩
theorem blorbRaw_walk (a0 : Option Addr) (n0 c0 : Nat) (rs0 : List Rk) (a1 : Option Addr) (n1 c1 : Nat) (z1 : List Int) (a2 : Option Addr) (n2 c2 : Nat) (rs2 : List Rk) (w : World) (h0 : IsRks w a0 n0 c0 rs0) (h1 : IsRow .u8 w a1 n1 c1 z1) (h2 : IsRks w a2 n2 c2 rs2) :
    Calls Try.prog 5 #[.slice a0 n0 c0, .slice a1 n1 c1, .slice a2 n2 c2] w fun e w' => e = .returned (.bool true) ∧ Below w.heap.size w w' := by
  obtain ⟨r1, r2, r3⟩ := reads_of_row h1
  exact raw_any a0 n0 c0 rs0 a1 n1 c1 _ a2 n2 c2 rs2 w h0 r1 r2 r3 h2 (fun _ => by
    cases a2 with
    | none => exact .inl (h2.2.2.2 rfl)
    | some x => exact .inr (by simp))
end Go.Proofs.Ytfoijglhifffjaa
