/- The walk of CodeForms: with its number laid in two bytes, or in four, it is the same instruction. -/
import Derived.Test.YtpkfmccnjandoaaB11p
namespace Go.Proofs.Ytpkfmccnjandoaa
open Go.RowKit
set_option maxHeartbeats 1000000
set_option maxRecDepth 100000
set_option linter.unusedVariables false

def rsL (l : List Od) : List Int := mdB l ++ l.flatMap valB
theorem dec_form2 (op : Int) (l : List Od) (h : encOk op l = true) : decR (putL (op + 32768) 2 ++ rsL l) 0 = (0, op, l, ((2 + (rsL l).length : Nat) : Int)) := by
  obtain ⟨r, hr, hl, hok⟩ := enc_parts h
  have hb := opR_bd hr
  have hnum := num_2 (putL (op + 32768) 2 ++ rsL l) (rsL l) 0 op (by rw [List.drop_zero]) (by omega)
  have := dec_lay _ [] 0 _ op r l hnum hr hl hok (by rw [List.length_append]; show 0 + 2 ≤ 2 + _; omega) (by rw [List.append_nil]; rfl)
  refine Eq.trans this ?_
  simp only [Prod.mk.injEq, true_and, rsL, List.length_append]
  omega
theorem dec_form4 (op : Int) (l : List Od) (h : encOk op l = true) : decR (putL (op + 3221225472) 4 ++ rsL l) 0 = (0, op, l, ((4 + (rsL l).length : Nat) : Int)) := by
  obtain ⟨r, hr, hl, hok⟩ := enc_parts h
  have hb := opR_bd hr
  have hnum := num_4 (putL (op + 3221225472) 4 ++ rsL l) (rsL l) 0 op (by rw [List.drop_zero]) (by omega)
  have := dec_lay _ [] 0 _ op r l hnum hr hl hok (by rw [List.length_append]; show 0 + 4 ≤ 4 + _; omega) (by rw [List.append_nil]; rfl)
  refine Eq.trans this ?_
  simp only [Prod.mk.injEq, true_and, rsL, List.length_append]
  omega
theorem rs_enc (op : Int) (l : List Od) : encL op l = opB op ++ rsL l := by unfold encL rsL; rw [List.append_assoc]
theorem rs_reads (op : Int) (l : List Od) (B g c : Nat) (w : World) (k : Nat) (hk : (opB op).length = k) (h : w.ownsRow B 5 1 (.slice (some ⟨g, 0, none⟩) (encL op l).length c) (encL op l).length (bytesV (encL op l))) :
    ∃ P, (if c = k then some (⟨g, 0, none⟩ : Addr) else some ⟨g, k, none⟩) = some ⟨g, P, none⟩ ∧ Reads w (some ⟨g, P, none⟩) (rsL l).length (c - k) (rsL l) ∧ (encL op l).length = k + (rsL l).length ∧ (encL op l).length ≤ c := by
  have hB := own_bs h
  have hR := own_reads h
  have hl : (encL op l).length = k + (rsL l).length := by rw [rs_enc, List.length_append, hk]
  have hc := hR.2.1
  by_cases e : c = k
  · rw [if_pos e]
    have h0 : (rsL l).length = 0 := by omega
    refine ⟨0, rfl, ⟨rfl, by omega, .inr ⟨_, rfl, fun i hi => by omega⟩⟩, hl, hc⟩
  · rw [if_neg e]
    have hs : seg (encL op l) k (rsL l).length = rsL l := by
      unfold seg
      rw [rs_enc, ← hk, List.drop_left, List.take_length]
    have := hB.sub k (rsL l).length (c - k) (by omega) (by omega)
    rw [hs, Nat.zero_add] at this
    exact ⟨k, rfl, this, hl, hc⟩
/-- behind Encode -/
theorem forms_go (op : Int) (a : Option Addr) (n c : Nat) (l : List Od) (w : World) (hOp : Ops w a n c l) (hn : n ≤ 100) (hok : encOk op l = true) (k : Nat) (hk : (opB op).length = k) (hk2 : (k = 1 ∧ op < 128) ∨ (k = 2 ∧ 128 ≤ op)) :
    Calls Try.prog 6 #[.agg #[.int .u32 op, .slice a n c]] w fun e w' => e = .returned (.bool true) ∧ Below w.heap.size w w' := by
  have HLV : Hid (∀ w1, Below w.heap.size w w1 → Calls Try.prog 9 #[] w1 fun e w' => e = .returned (.bool true) ∧ Below w.heap.size w w') := fun w1 hb => (live_any w1).mono (fun e w' hh => ⟨hh.1, hb.trans (hh.2.mono hb.size)⟩)
  have hbI : Below w.heap.size w (w.alloc (.cells #[.int .u32 op, .slice a n c] 28)) := (Below.refl _ _).alloc (Nat.le_refl _) _
  have hiI : IB (w.alloc (.cells #[.int .u32 op, .slice a n c] 28)) w.heap.size op a n c := heap_alloc_new _ _
  obtain ⟨k0, k1, _, _⟩ := ib_box hiI
  obtain ⟨hEo, hEl⟩ := ok_enc hok
  obtain ⟨r, hr, hlr, _⟩ := enc_parts hok
  have hb := opR_bd hr
  have hnl := hOp.1
  have hRo : OkB (rsL l) := fun x hx => hEo x (by rw [rs_enc]; exact List.mem_append_right _ hx)
  have d1 : ¬ (n : Int) > 100 := by omega
  have HEn := hidden ((enc_box op a n c l w _ hOp (by omega) hbI).mono (fun e w' hh => by
    obtain ⟨h1, _, h2⟩ := hh
    obtain ⟨g2, c2, h3, h4⟩ := h2 hok
    exact (⟨g2, c2, h3, rs_reads op l _ g2 c2 w' k hk h4, h1⟩ : ∃ g2 c2, e = .returned (.tuple #[.slice (some ⟨g2, 0, none⟩) (encL op l).length c2, .int .i64 0]) ∧ (∃ P, (if c2 = k then some (⟨g2, 0, none⟩ : Addr) else some ⟨g2, k, none⟩) = some ⟨g2, P, none⟩ ∧ Reads w' (some ⟨g2, P, none⟩) (rsL l).length (c2 - k) (rsL l) ∧ (encL op l).length = k + (rsL l).length ∧ (encL op l).length ≤ c2) ∧ Below (w.alloc (.cells #[.int .u32 op, .slice a n c] 28)).heap.size (w.alloc (.cells #[.int .u32 op, .slice a n c] 28)) w')))
  have HD2 : Hid (∀ B g9 c9 wx, wx.ownsRow B 5 1 (.slice (some ⟨g9, 0, none⟩) (2 + (rsL l).length) c9) (2 + (rsL l).length) (bytesV (putL (op + 32768) 2 ++ rsL l)) → Calls Try.prog 11 #[.slice (some ⟨g9, 0, none⟩) (2 + (rsL l).length) c9, .int .i64 0] wx fun e w' => ∃ a5 c5, e = .returned (.tuple #[.agg #[.int .u32 op, .slice a5 n c5], .int .i64 ((2 + (rsL l).length : Nat) : Int), .int .i64 0]) ∧ Ops w' a5 n c5 l ∧ Below wx.heap.size wx w') := fun B g9 c9 wx hx => by
    have hE := rs_enc op l
    have hL := congrArg List.length hE
    rw [List.length_append] at hL
    have := decode_any (some ⟨g9, 0, none⟩) _ c9 0 _ wx (own_reads hx) (okb_app (putL_bd _ _) hRo) (by omega) (by omega)
    rw [dec_form2 op l hok] at this
    refine this.mono ?_
    rintro e w' ⟨a5, c5, h1, h2, h3⟩
    rw [← hnl]
    exact ⟨a5, c5, h1, h2, h3⟩
  have HD4 : Hid (∀ B g9 c9 wx, wx.ownsRow B 5 1 (.slice (some ⟨g9, 0, none⟩) (4 + (rsL l).length) c9) (4 + (rsL l).length) (bytesV (putL (op + 3221225472) 4 ++ rsL l)) → Calls Try.prog 11 #[.slice (some ⟨g9, 0, none⟩) (4 + (rsL l).length) c9, .int .i64 0] wx fun e w' => ∃ a5 c5, e = .returned (.tuple #[.agg #[.int .u32 op, .slice a5 n c5], .int .i64 ((4 + (rsL l).length : Nat) : Int), .int .i64 0]) ∧ Ops w' a5 n c5 l ∧ Below wx.heap.size wx w') := fun B g9 c9 wx hx => by
    have hE := rs_enc op l
    have hL := congrArg List.length hE
    rw [List.length_append] at hL
    have := decode_any (some ⟨g9, 0, none⟩) _ c9 0 _ wx (own_reads hx) (okb_app (putL_bd _ _) hRo) (by omega) (by omega)
    rw [dec_form4 op l hok] at this
    refine this.mono ?_
    rintro e w' ⟨a5, c5, h1, h2, h3⟩
    rw [← hnl]
    exact ⟨a5, c5, h1, h2, h3⟩
  have HP2 : Hid (∀ wx, Calls Try.prog 19 #[.int .u32 (op + 32768), .int .i64 2] wx fun e w' => ∃ g c, e = .returned (.slice (some ⟨g, 0, none⟩) 2 c) ∧ w'.ownsRow wx.heap.size 5 1 (.slice (some ⟨g, 0, none⟩) 2 c) 2 (bytesV (putL (op + 32768) 2)) ∧ Below wx.heap.size wx w') := fun wx => (rput_2 (op + 32768) wx (by omega) (by omega)).mono (fun e w' hh => by
    obtain ⟨v, h1, h2, h3⟩ := hh
    obtain ⟨g, cp, rfl, _, _⟩ := owned_shape h2 (by omega)
    exact ⟨g, cp, h1, h2, h3⟩)
  have HP4 : Hid (∀ wx, Calls Try.prog 19 #[.int .u32 (op + 3221225472), .int .i64 4] wx fun e w' => ∃ g c, e = .returned (.slice (some ⟨g, 0, none⟩) 4 c) ∧ w'.ownsRow wx.heap.size 5 1 (.slice (some ⟨g, 0, none⟩) 4 c) 4 (bytesV (putL (op + 3221225472) 4)) ∧ Below wx.heap.size wx w') := fun wx => (rput_4 (op + 3221225472) wx (by omega) (by omega)).mono (fun e w' hh => by
    obtain ⟨v, h1, h2, h3⟩ := hh
    obtain ⟨g, cp, rfl, _, _⟩ := owned_shape h2 (by omega)
    exact ⟨g, cp, h1, h2, h3⟩)
  have hw1 : IntKind.u32.wrap (op + 32768) = op + 32768 := by rw [IntKind.wrap_u32]; omega
  have hw2 : IntKind.u32.wrap (op + 3221225472) = op + 3221225472 := by rw [IntKind.wrap_u32]; omega
  have HBI := hidden hbI
  have HII := hidden hiI
  have HOps := hidden hOp
  have hEl2 : (encL op l).length = k + (rsL l).length := by rw [rs_enc, List.length_append, hk]
  have hwa : IntKind.i64.wrap (2 + ((rsL l).length : Int)) = 2 + ((rsL l).length : Int) := by rw [IntKind.wrap_i64]; omega
  have hwb : IntKind.i64.wrap (4 + ((rsL l).length : Int)) = 4 + ((rsL l).length : Int) := by rw [IntKind.wrap_i64]; omega
  clear hbI hiI hOp hEo hRo hr hlr hb hnl
  generalize putL (op + 32768) 2 = PA at *
  generalize putL (op + 3221225472) 4 = PB at *
  generalize rsL l = RS at *
  rw [hEl2] at hEl HEn
  clear hEl2 hk hok
  rcases hk2 with ⟨rfl, h128⟩ | ⟨rfl, h128⟩
  · have hsb : 1 + RS.length - 1 = RS.length := by omega
    go_enter Try.func6, Try.ntmps6
    go_wp2_with (first
      | (go_at_call 16; refine HEn.out.mono ?_; rintro e w1 ⟨g2, c2, rfl, ⟨P, hP, hr2, _, hcc⟩, hb1⟩; have HB1 := hidden (HBI.out.trans (hb1.mono HBI.out.size)); have HI1 := hidden (HII.out.later hb1); obtain ⟨b0, b1, _, _⟩ := ib_box HI1.out; have HR2 := hidden hr2; clear hr2 hb1)
      | (go_at_call 14; refine (num11 _ _).mono ?_; rintro e w6 ⟨rfl, hw⟩; obtain rfl := hw.symm)
      | (go_at_call 19; (with_reducible refine (HP2.out _).mono ?_); rintro e w3 ⟨g3, c3, rfl, ho3, hb3⟩; have HO3 := hidden ho3; have HB3 := hidden hb3; clear ho3 hb3)
      | (go_at_call 19; (with_reducible refine (HP4.out _).mono ?_); rintro e w6 ⟨g6, c6, rfl, ho6, hb6⟩; have HO6 := hidden ho6; have HB6 := hidden hb6; clear ho6 hb6)
      | (at_builtin; refine wpList_appR rfl _ _ rfl w1.heap.size g3 2 c3 RS.length (c2 - 1) (some ⟨g2, P, none⟩) PA RS rfl rfl HO3.out (HR2.out.later HB3.out) (by omega) HB3.out.size ?_; intro g4 c4 w4 ho4 hf4; have HO4 := hidden ho4; have HB4 := hidden (HB3.out.trans (hf4.out.below HB3.out.size (fun q e => (HO3.out.lt q e).1))); clear ho4 hf4)
      | (at_builtin; refine wpList_appR rfl _ _ rfl (w5.heap.size + 1) g6 4 c6 RS.length (c2 - 1) (some ⟨g2, P, none⟩) PB RS rfl rfl (own_base HO6.out (Nat.le_of_eq (World.size_alloc _ _).symm)) (HR5.out.later HB6.out) (by omega) (Nat.le_trans (Nat.le_of_eq (World.size_alloc _ _).symm) HB6.out.size) ?_; intro g7 c7 w7 ho7 hf7; have HO7 := hidden ho7; have HB7 := hidden ((HB6.out.mono (Nat.le_of_eq (World.size_alloc _ _).symm)).trans (hf7.out.below (Nat.le_trans (Nat.le_of_eq (World.size_alloc _ _).symm) HB6.out.size) (fun q e => Nat.le_trans (Nat.le_of_eq (World.size_alloc _ _).symm) (HO6.out.lt q e).1))); clear ho7 hf7)
      | (go_at_call 11; (with_reducible refine (HD2.out _ _ _ _ HO4.out).mono ?_); rintro e w5 ⟨a5, c5, rfl, hp5, hb5⟩; have hb15 : Below w1.heap.size w1 w5 := HB4.out.trans (hb5.mono HB4.out.size); have hb1a : Below w1.heap.size w1 (w5.alloc (.cells #[.int .u32 op, .slice a5 n c5] 28)) := hb15.alloc hb15.size _; have HB5 := hidden hb1a; have HI5 := hidden (HI1.out.later hb1a); have HR5 := hidden (HR2.out.later hb1a); obtain ⟨d0, d1, _, _⟩ := ib_box HI5.out; have HX5 : Hid (IB (w5.alloc (.cells #[.int .u32 op, .slice a5 n c5] 28)) w5.heap.size op a5 n c5) := heap_alloc_new _ _; have HPx := hidden (hp5.later ((Below.refl _ _).alloc (Nat.le_refl _) (.cells #[.int .u32 op, .slice a5 n c5] 28))); clear hp5 hb5 hb15 hb1a)
      | (go_at_call 11; (with_reducible refine (HD4.out _ _ _ _ HO7.out).mono ?_); rintro e w8 ⟨a8, c8, rfl, hp8, hb8⟩; have hb58 : Below (w5.heap.size + 1) (w5.alloc (.cells #[.int .u32 op, .slice a5 n c5] 28)) w8 := HB7.out.trans (hb8.mono (Nat.le_trans (Nat.le_of_eq (World.size_alloc _ _).symm) HB7.out.size)); have hb5b : Below (w5.alloc (.cells #[.int .u32 op, .slice a5 n c5] 28)).heap.size (w5.alloc (.cells #[.int .u32 op, .slice a5 n c5] 28)) (w8.alloc (.cells #[.int .u32 op, .slice a8 n c8] 28)) := (by rw [World.size_alloc]; exact hb58.alloc (Nat.le_trans (Nat.le_of_eq (World.size_alloc _ _).symm) hb58.size) _); have HI8 := hidden (HI5.out.later hb5b); have HX8 := hidden (HX5.out.later hb5b); have HP8 := hidden (HPx.out.later hb5b); have HY8 : Hid (IB (w8.alloc (.cells #[.int .u32 op, .slice a8 n c8] 28)) w8.heap.size op a8 n c8) := heap_alloc_new _ _; have HQ8 := hidden (hp8.later ((Below.refl _ _).alloc (Nat.le_refl _) (.cells #[.int .u32 op, .slice a8 n c8] 28))); have HB8 := hidden (HB1.out.trans ((HB5.out.trans (hb5b.mono HB5.out.size)).mono HB1.out.size)); obtain ⟨e0, e1, _, _⟩ := ib_box HI8.out; obtain ⟨x0, x1, _, _⟩ := ib_box HX8.out; obtain ⟨y0, y1, _, _⟩ := ib_box HY8.out; clear hp8 hb8 hb58 hb5b; have HS8 : Hid (∀ ax cx wx, Ops (w8.alloc (.cells #[.int .u32 op, .slice a8 n c8] 28)) ax n cx l → Below (w8.alloc (.cells #[.int .u32 op, .slice a8 n c8] 28)).heap.size (w8.alloc (.cells #[.int .u32 op, .slice a8 n c8] 28)) wx → Calls Try.prog 13 #[.agg #[.int .u32 op, .slice ax n cx], .agg #[.int .u32 op, .slice a n c]] wx fun e w' => e = .returned (.bool true) ∧ Below (w8.alloc (.cells #[.int .u32 op, .slice a8 n c8] 28)).heap.size (w8.alloc (.cells #[.int .u32 op, .slice a8 n c8] 28)) w') := (fun ax cx wx hq hx => (same_od op ax a n cx c l wx (hq.later hx) ((HOps.out.later HB8.out).later hx) (by omega)).mono (fun e w' hh => ⟨hh.1, hx.trans (hh.2.mono hx.size)⟩)))
      | (go_at_call 13; (with_reducible refine (HS8.out _ _ _ HP8.out (Below.refl _ _)).mono ?_); rintro e w9 ⟨rfl, hb9⟩; have HB9 := hidden hb9; have z0 := cellLater hb9 e0; have z1 := cellLater hb9 e1; have z2 := cellLater hb9 y0; have z3 := cellLater hb9 y1; clear hb9)
      | (go_at_call 13; (with_reducible refine (HS8.out _ _ _ HQ8.out HB9.out).mono ?_); rintro e wa ⟨rfl, hba⟩; have HBa := hidden (HB8.out.trans (hba.mono HB8.out.size)); clear hba)
      | (go_at_call 9; refine (HLV.out _ HBa.out).mono ?_; rintro e wl ⟨rfl, hbl⟩)
      | fail)
    go_ret
    exact ⟨rfl, hbl⟩
  · have hsb : 2 + RS.length - 2 = RS.length := by omega
    go_enter Try.func6, Try.ntmps6
    go_wp2_with (first
      | (go_at_call 16; refine HEn.out.mono ?_; rintro e w1 ⟨g2, c2, rfl, ⟨P, hP, hr2, _, hcc⟩, hb1⟩; have HB1 := hidden (HBI.out.trans (hb1.mono HBI.out.size)); have HI1 := hidden (HII.out.later hb1); obtain ⟨b0, b1, _, _⟩ := ib_box HI1.out; have HR2 := hidden hr2; clear hr2 hb1)
      | (go_at_call 14; refine (num11 _ _).mono ?_; rintro e w6 ⟨rfl, hw⟩; obtain rfl := hw.symm)
      | (go_at_call 19; (with_reducible refine (HP2.out _).mono ?_); rintro e w3 ⟨g3, c3, rfl, ho3, hb3⟩; have HO3 := hidden ho3; have HB3 := hidden hb3; clear ho3 hb3)
      | (go_at_call 19; (with_reducible refine (HP4.out _).mono ?_); rintro e w6 ⟨g6, c6, rfl, ho6, hb6⟩; have HO6 := hidden ho6; have HB6 := hidden hb6; clear ho6 hb6)
      | (at_builtin; refine wpList_appR rfl _ _ rfl w1.heap.size g3 2 c3 RS.length (c2 - 2) (some ⟨g2, P, none⟩) PA RS rfl rfl HO3.out (HR2.out.later HB3.out) (by omega) HB3.out.size ?_; intro g4 c4 w4 ho4 hf4; have HO4 := hidden ho4; have HB4 := hidden (HB3.out.trans (hf4.out.below HB3.out.size (fun q e => (HO3.out.lt q e).1))); clear ho4 hf4)
      | (at_builtin; refine wpList_appR rfl _ _ rfl (w5.heap.size + 1) g6 4 c6 RS.length (c2 - 2) (some ⟨g2, P, none⟩) PB RS rfl rfl (own_base HO6.out (Nat.le_of_eq (World.size_alloc _ _).symm)) (HR5.out.later HB6.out) (by omega) (Nat.le_trans (Nat.le_of_eq (World.size_alloc _ _).symm) HB6.out.size) ?_; intro g7 c7 w7 ho7 hf7; have HO7 := hidden ho7; have HB7 := hidden ((HB6.out.mono (Nat.le_of_eq (World.size_alloc _ _).symm)).trans (hf7.out.below (Nat.le_trans (Nat.le_of_eq (World.size_alloc _ _).symm) HB6.out.size) (fun q e => Nat.le_trans (Nat.le_of_eq (World.size_alloc _ _).symm) (HO6.out.lt q e).1))); clear ho7 hf7)
      | (go_at_call 11; (with_reducible refine (HD2.out _ _ _ _ HO4.out).mono ?_); rintro e w5 ⟨a5, c5, rfl, hp5, hb5⟩; have hb15 : Below w1.heap.size w1 w5 := HB4.out.trans (hb5.mono HB4.out.size); have hb1a : Below w1.heap.size w1 (w5.alloc (.cells #[.int .u32 op, .slice a5 n c5] 28)) := hb15.alloc hb15.size _; have HB5 := hidden hb1a; have HI5 := hidden (HI1.out.later hb1a); have HR5 := hidden (HR2.out.later hb1a); obtain ⟨d0, d1, _, _⟩ := ib_box HI5.out; have HX5 : Hid (IB (w5.alloc (.cells #[.int .u32 op, .slice a5 n c5] 28)) w5.heap.size op a5 n c5) := heap_alloc_new _ _; have HPx := hidden (hp5.later ((Below.refl _ _).alloc (Nat.le_refl _) (.cells #[.int .u32 op, .slice a5 n c5] 28))); clear hp5 hb5 hb15 hb1a)
      | (go_at_call 11; (with_reducible refine (HD4.out _ _ _ _ HO7.out).mono ?_); rintro e w8 ⟨a8, c8, rfl, hp8, hb8⟩; have hb58 : Below (w5.heap.size + 1) (w5.alloc (.cells #[.int .u32 op, .slice a5 n c5] 28)) w8 := HB7.out.trans (hb8.mono (Nat.le_trans (Nat.le_of_eq (World.size_alloc _ _).symm) HB7.out.size)); have hb5b : Below (w5.alloc (.cells #[.int .u32 op, .slice a5 n c5] 28)).heap.size (w5.alloc (.cells #[.int .u32 op, .slice a5 n c5] 28)) (w8.alloc (.cells #[.int .u32 op, .slice a8 n c8] 28)) := (by rw [World.size_alloc]; exact hb58.alloc (Nat.le_trans (Nat.le_of_eq (World.size_alloc _ _).symm) hb58.size) _); have HI8 := hidden (HI5.out.later hb5b); have HX8 := hidden (HX5.out.later hb5b); have HP8 := hidden (HPx.out.later hb5b); have HY8 : Hid (IB (w8.alloc (.cells #[.int .u32 op, .slice a8 n c8] 28)) w8.heap.size op a8 n c8) := heap_alloc_new _ _; have HQ8 := hidden (hp8.later ((Below.refl _ _).alloc (Nat.le_refl _) (.cells #[.int .u32 op, .slice a8 n c8] 28))); have HB8 := hidden (HB1.out.trans ((HB5.out.trans (hb5b.mono HB5.out.size)).mono HB1.out.size)); obtain ⟨e0, e1, _, _⟩ := ib_box HI8.out; obtain ⟨x0, x1, _, _⟩ := ib_box HX8.out; obtain ⟨y0, y1, _, _⟩ := ib_box HY8.out; clear hp8 hb8 hb58 hb5b; have HS8 : Hid (∀ ax cx wx, Ops (w8.alloc (.cells #[.int .u32 op, .slice a8 n c8] 28)) ax n cx l → Below (w8.alloc (.cells #[.int .u32 op, .slice a8 n c8] 28)).heap.size (w8.alloc (.cells #[.int .u32 op, .slice a8 n c8] 28)) wx → Calls Try.prog 13 #[.agg #[.int .u32 op, .slice ax n cx], .agg #[.int .u32 op, .slice a n c]] wx fun e w' => e = .returned (.bool true) ∧ Below (w8.alloc (.cells #[.int .u32 op, .slice a8 n c8] 28)).heap.size (w8.alloc (.cells #[.int .u32 op, .slice a8 n c8] 28)) w') := (fun ax cx wx hq hx => (same_od op ax a n cx c l wx (hq.later hx) ((HOps.out.later HB8.out).later hx) (by omega)).mono (fun e w' hh => ⟨hh.1, hx.trans (hh.2.mono hx.size)⟩)))
      | (go_at_call 13; (with_reducible refine (HS8.out _ _ _ HP8.out (Below.refl _ _)).mono ?_); rintro e w9 ⟨rfl, hb9⟩; have HB9 := hidden hb9; have z0 := cellLater hb9 e0; have z1 := cellLater hb9 e1; have z2 := cellLater hb9 y0; have z3 := cellLater hb9 y1; clear hb9)
      | (go_at_call 13; (with_reducible refine (HS8.out _ _ _ HQ8.out HB9.out).mono ?_); rintro e wa ⟨rfl, hba⟩; have HBa := hidden (HB8.out.trans (hba.mono HB8.out.size)); clear hba)
      | (go_at_call 9; refine (HLV.out _ HBa.out).mono ?_; rintro e wl ⟨rfl, hbl⟩)
      | fail)
    go_ret
    exact ⟨rfl, hbl⟩
theorem codeForms_walk (op : Int) (a : Option Addr) (n c : Nat) (l : List Od) (w : World) (hop : (Lit.int .u32 op).wf = true) (hods : IsOds w a n c l) :
    Calls Try.prog 6 #[.agg #[.int .u32 op, .slice a n c]] w fun e w' => e = .returned (.bool true) ∧ Below w.heap.size w w' := by
  have hOp := hods.1
  have HLV : Hid (∀ w1, Below w.heap.size w w1 → Calls Try.prog 9 #[] w1 fun e w' => e = .returned (.bool true) ∧ Below w.heap.size w w') := fun w1 hb => (live_any w1).mono (fun e w' hh => ⟨hh.1, hb.trans (hh.2.mono hb.size)⟩)
  have hbI : Below w.heap.size w (w.alloc (.cells #[.int .u32 op, .slice a n c] 28)) := (Below.refl _ _).alloc (Nat.le_refl _) _
  have hiI : IB (w.alloc (.cells #[.int .u32 op, .slice a n c] 28)) w.heap.size op a n c := heap_alloc_new _ _
  obtain ⟨k0, k1, _, _⟩ := ib_box hiI
  clear hods hop
  by_cases hn : n ≤ 100
  · cases hok : encOk op l
    · have d1 : ¬ (n : Int) > 100 := by omega
      have HEf := hidden ((enc_box op a n c l w _ hOp (by omega) hbI).mono (fun e w' hh => (⟨hh.2.1 hok, hbI.trans (hh.1.mono hbI.size)⟩ : _ ∧ Below w.heap.size w w')))
      clear hbI hiI hOp
      go_enter Try.func6, Try.ntmps6
      go_wp2_with (first | (go_at_call 16; refine HEf.out.mono ?_; rintro e w1 ⟨rfl, hb1⟩) | (go_at_call 14; refine (num11 _ _).mono ?_; rintro e w6 ⟨rfl, rfl⟩) | (go_at_call 9; refine (HLV.out _ hb1).mono ?_; rintro e wl ⟨rfl, hbl⟩))
      go_ret
      exact ⟨rfl, hbl⟩
    · by_cases h1 : op < 128
      · exact forms_go op a n c l w hOp hn hok 1 (by unfold opB; rw [if_pos h1]; rfl) (.inl ⟨rfl, h1⟩)
      · exact forms_go op a n c l w hOp hn hok 2 (by unfold opB; rw [if_neg h1]; rfl) (.inr ⟨rfl, by omega⟩)
  · have d1 : (n : Int) > 100 := by omega
    clear hiI hOp
    go_enter Try.func6, Try.ntmps6
    go_wp2_with (first | (go_at_call 9; refine (HLV.out _ hbI).mono ?_; rintro e wl ⟨rfl, hbl⟩))
    go_ret
    exact ⟨rfl, hbl⟩
end Go.Proofs.Ytpkfmccnjandoaa
