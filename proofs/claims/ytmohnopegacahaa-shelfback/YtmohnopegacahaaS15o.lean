/- Layer 15, the program: Buffer. -/
import Derived.Test.YtmohnopegacahaaS15n
namespace Go.Proofs.Ytmohnopegacahaa
open Go.RowKit
set_option maxHeartbeats 1000000
set_option maxRecDepth 100000
set_option linter.unusedVariables false

def asL (xs : List Nat) (wide : Bool) : List Int := xs.map (fun x : Nat => asW (x : Int) wide)
theorem asL_bd (xs : List Nat) (wide : Bool) (h : ∀ x ∈ xs, x < 4294967296) : ∀ z ∈ asL xs wide, 0 ≤ z ∧ z ≤ 4294967295 := by
  intro z hz
  obtain ⟨x, hx, rfl⟩ := List.mem_map.1 hz
  have := h x hx
  exact asW_bd _ _ (by omega)
theorem asL_snoc (xs : List Nat) (wide : Bool) (j : Nat) (hj : j < xs.length) : asL (xs.take (j + 1)) wide = asL (xs.take j) wide ++ [asW ((xs.getD j 0 : Nat) : Int) wide] := by
  unfold asL
  rw [List.take_add_one, List.getElem?_eq_getElem hj, List.map_append, show xs.getD j 0 = xs[j] by simp [List.getD_eq_getElem?_getD, hj]]
  rfl
theorem below_set {B : Nat} {w0 w : World} (hb : Below B w0 w) (b i : Nat) (u : Value) (h : B ≤ b) : Below B w0 (w.setCell ⟨b, i, none⟩ u) :=
  ⟨hb.os, hb.tape, hb.output, by simpa using hb.size, fun k hk => by rw [heap_setCell_other _ _ _ _ (show k ≠ b by omega)]; exact hb.block k hk⟩
theorem VRow.later {w w' : World} {a : Option Addr} {n : Nat} {xs : List Nat} (h : VRow w a n xs) (hb : Below w.heap.size w w') : VRow w' a n xs :=
  ⟨h.ln, h.bd, fun i hi => by
    obtain ⟨b, o, e1, e2⟩ := h.cells i hi
    refine ⟨b, o, e1, ?_⟩
    have hlt : b < w.heap.size := by
      unfold World.cell? at e2
      simp only at e2
      cases hq : w.heap[b]? with
      | none => rw [hq] at e2; simp at e2
      | some ob => exact (Array.getElem?_eq_some_iff.1 hq).1
    rw [World.cell?_of_block (hb.block b hlt)]; exact e2⟩
set_option maxHeartbeats 4000000 in
theorem buffer_any {B m : Nat} {w : World} {s : Sh} (h : ShAt B w m s) (ok : OkS s) (hB : B ≤ w.heap.size) (hn : s.S.length < 64) (hl : s.last < 1000000) (a : Option Addr) (xs : List Nat) (c : Nat) (hr : VRow w a xs.length xs) (hx : xs.length ≤ 4096) (md : Int) (wide : Bool) (hm : md = 1 ∨ md = 2 ∨ md = 3) :
    Calls Try.prog 21 #[.pointer (some ⟨m, 0, none⟩), .slice a xs.length c, .int .i64 md, .bool wide] w fun e w' => e = .returned (.tuple #[.int .i64 (s.last + 1), .int .i64 0]) ∧ Hid (BuR B w m s md wide (asL xs wide) w') := by
  obtain ⟨d0, d1, d2, d3, d5⟩ := h.cells
  obtain ⟨sa, sc, hsv⟩ := own_slice h.row
  rw [hsv] at d3
  have HM := hidden (isMode_any md w)
  rw [show mdB md = true by rcases hm with rfl | rfl | rfl <;> rfl] at HM
  have q5 : (md == 5) = false := by rcases hm with rfl | rfl | rfl <;> rfl
  have qn : ¬ (xs.length : Int) > 4096 := by omega
  have qs : ¬ (s.S.length : Int) ≥ 64 := by omega
  have hma : m < w.heap.size := h.lt
  have HAW := hidden (fun c0 w1 => asWritten_any c0 wide w1)
  have HVR : Hid (∀ w1, Below w.heap.size w w1 → VRow w1 a xs.length xs) := hidden (fun w1 hb => hr.later hb)
  have HFN : Hid (∀ w3 b v, BAt w.heap.size w3 b v (asL xs wide) → Below w.heap.size w w3 → _) := hidden (fun w3 b v hg hb => buf_fin (md := md) (wide := wide) h ok hB hn hl hg hb)
  have HS0 : Hid (BuAt w ((w.alloc (.cells (madeCells (Value.int .u32 0).cells xs.length) 32)).alloc (.cells #[.slice (some ⟨w.heap.size, 0, none⟩) 0 xs.length] 97)) (w.heap.size + 1) []) := hidden (by
    have b1 : Below w.heap.size w (w.alloc (.cells (madeCells (Value.int .u32 0).cells xs.length) 32)) := (Below.refl _ _).alloc (Nat.le_refl _) _
    have o1 : (w.alloc (.cells (madeCells (Value.int .u32 0).cells xs.length) 32)).ownsRow w.heap.size 32 1 (.slice (some ⟨w.heap.size, 0, none⟩) 0 xs.length) 0 [] := World.ownsRow_made (size := 1) w _ xs.length (Nat.le_refl _) (by unfold maxLen; omega) (by simp [madeCells])
    have hsz : (w.alloc (.cells (madeCells (Value.int .u32 0).cells xs.length) 32)).heap.size = w.heap.size + 1 := by simp
    have hbx := heap_alloc_new (w.alloc (.cells (madeCells (Value.int .u32 0).cells xs.length) 32)) (.cells #[.slice (some ⟨w.heap.size, 0, none⟩) 0 xs.length] 97)
    rw [hsz] at hbx
    exact ⟨_, ⟨by omega, hbx, own_later o1 ((Below.refl _ _).alloc (Nat.le_refl _) _), by simp, by simp⟩, b1.alloc (by simp) _⟩)
  have HXB := hidden hr.bd
  clear h ok hB hm hr hn hl
  generalize hN : xs.length = N at *
  have HN := hidden hN
  clear hN
  have hmk := mkC N (by omega)
  go_enter Try.func21, Try.ntmps21
  go_upto_region 9 with (first | (go_at_call 44; refine HM.out.mono ?_; rintro e w1 ⟨rfl, e1⟩; rw [e1]; clear e1) | fail)
  rw [show (Value.int .u32 0).cells = #[.int .u32 0] from rfl] at HS0
  generalize (w.alloc (.cells (madeCells #[.int .u32 0] N) 32)).alloc (.cells #[.slice (some ⟨w.heap.size, 0, none⟩) 0 N] 97) = w2 at *
  generalize hG : w.heap.size + 1 = G at *
  clear hG hmk
  go_loopw [43] (fun i w' => ∃ j : Nat, j ≤ N ∧ i = .int .i64 j ∧ Hid (BuAt w w' G (asL (xs.take j) wide))) (fun i _ => N - (intOf i).toNat)
  case atStart => exact ⟨0, by omega, rfl, HS0⟩
  case round =>
    obtain ⟨j, hj, rfl, HU⟩ := hrel
    by_cases hlt : j < N
    · have l1 : (j : Int) < N := by omega
      have l0 : (0 : Int) ≤ j := by omega
      obtain ⟨v, HBt⟩ : ∃ v, Hid (BAt w.heap.size wr G v (asL (xs.take j) wide) ∧ Below w.heap.size w wr) := by
        obtain ⟨v, h1⟩ := HU.out
        exact ⟨v, hidden h1⟩
      obtain ⟨ab, ao, ea, e2⟩ := (HVR.out wr HBt.out.2).cells j hlt
      have HAS := hidden (asL_snoc xs wide j (by rw [HN.out]; exact hlt))
      have HXJ : Hid (0 ≤ ((xs.getD j 0 : Nat) : Int) ∧ ((xs.getD j 0 : Nat) : Int) ≤ 4294967295) := hidden (by
        have : xs.getD j 0 ∈ xs := by
          have hjl : j < xs.length := by rw [HN.out]; exact hlt
          rw [List.getD_eq_getElem?_getD, List.getElem?_eq_getElem hjl]
          exact List.getElem_mem hjl
        have := HXB.out _ this
        omega)
      generalize xs.getD j 0 = X at *
      have HAX := hidden (fun w1 => HAW.out (X : Int) w1)
      have HVB := hidden (asW_bd (X : Int) wide HXJ.out)
      generalize asW (X : Int) wide = V at *
      have hlen : (asL (xs.take j) wide).length = j := by unfold asL; rw [List.length_map, List.length_take]; have := HN.out; omega
      obtain ⟨va, vc, hv⟩ := own_slice HBt.out.1.row
      rw [hlen] at hv
      subst hv
      subst ea
      obtain ⟨c0, z0⟩ := HBt.out.1.cell
      have hGl : G < wr.heap.size := (Array.getElem?_eq_some_iff.1 HBt.out.1.box).1
      have hGn : ¬ G = wr.heap.size := by omega
      have HOW : Hid (∀ wx, Below wr.heap.size wr wx → wx.ownsRow w.heap.size 32 1 (.slice va j vc) j (w32V (asL (xs.take j) wide))) := hidden (fun wx hb => by have := own_later HBt.out.1.row hb; rw [hlen] at this; exact this)
      have HBX : Hid (∀ wx, Below wr.heap.size wr wx → w.heap.size ≤ wx.heap.size) := hidden (fun wx hb => Nat.le_trans HBt.out.2.size hb.size)
      have HNW : Hid (∀ wx : World, wx.heap = (wr.alloc (.cells #[.int .u32 V] 32)).heap → wx.cell? ⟨wr.heap.size, 0, none⟩ = some (.int .u32 V)) := hidden (fun wx e => by
        have hh := heap_alloc_new wr (.cells #[.int .u32 V] 32)
        rw [← e] at hh
        unfold World.cell?
        rw [hh]
        rfl)
      have HST : Hid (∀ wx a7 c7 w7, Below wr.heap.size wr wx → w7.ownsRow w.heap.size 32 1 (.slice a7 (j + 1) c7) (j + 1) (w32V (asL (xs.take j) wide ++ [V])) → Fm wx w7 (fun k => (Value.slice va j vc).ownBlock = some k) (fun k => (Value.slice a7 (j + 1) c7).ownBlock = some k) →
          w7.frozen? ⟨G, 0, none⟩ = false ∧ w7.cell? ⟨G, 0, none⟩ = some (.slice va j vc) ∧ Hid (BuAt w (w7.setCell ⟨G, 0, none⟩ (.slice a7 (j + 1) c7)) G (asL (xs.take (j + 1)) wide))) := hidden (fun wx a7 c7 w7 hb ho f => by
        have h5 := HBt.out.1.later hb
        have hne : (Value.slice va j vc).ownBlock ≠ some G := own_neE h5.row h5.box (by decide)
        have hbx : w7.heap[G]? = some (.cells #[.slice va j vc] 97 (0, 0)) := by rw [f.block G (Array.getElem?_eq_some_iff.1 h5.box).1 hne]; exact h5.box
        have hll : (asL (xs.take (j + 1)) wide).length = j + 1 := by rw [HAS.out, List.length_append, hlen]; rfl
        have hbl : Below w.heap.size wx w7 := f.below (Nat.le_trans HBt.out.2.size hb.size) (fun k e => (row_lt h5.row e).1)
        refine ⟨by simp [World.frozen?, hbx], by simp [World.cell?, hbx], hidden ⟨_, ⟨h5.base, by rw [bkset hbx]; rfl, ?_, ?_, ?_⟩, ?_⟩⟩
        · rw [hll, HAS.out]
          exact ownsRow_setCell_other ho (by simpa using own_neE ho hbx (by decide)) _
        · rw [hll]; omega
        · rw [HAS.out]
          intro z hz
          rcases List.mem_append.1 hz with q | q
          · exact h5.bd z q
          · rw [List.mem_singleton] at q; subst q; exact HVB.out
        · exact below_set ((HBt.out.2.trans (hb.mono HBt.out.2.size)).trans hbl) G 0 _ h5.base)
      clear HU HVR HXB hlen
      go_upto_region 11 with fail
      have HAX1 := hidden (HAX.out wr.drew)
      go_region_law (first | (refine step_app32 (by rfl) _ _ (by rfl) w.heap.size j (.slice va j vc) (asL (xs.take j) wide) V ⟨wr.heap.size, 0, none⟩ (by rfl) (by rfl) (HOW.out _ (by repeat (first | exact Below.refl _ _ | apply Below.drew | (refine Below.alloc ?_ (by first | omega | (simp; omega) | simp) _)))) (HNW.out _ (by rfl)) (HBX.out _ (by repeat (first | exact Below.refl _ _ | apply Below.drew | (refine Below.alloc ?_ (by first | omega | (simp; omega) | simp) _)))) (by omega) ?_; intro a7 c7 w7 ho7 f7; obtain ⟨t1, t2, H8⟩ := HST.out _ _ _ _ (by repeat (first | exact Below.refl _ _ | apply Below.drew | (refine Below.alloc ?_ (by first | omega | (simp; omega) | simp) _))) ho7 f7.out; clear ho7 f7) | (go_simp; (with_reducible refine HAX1.out.mono ?_); rintro e w5 ⟨rfl, e5⟩; rw [e5]; clear e5) | fail)
      all_goals (
        go_wp2
        go_roundw
        case rel => exact ⟨j + 1, by omega, by first | rfl | go_num, H8⟩
        case measure => simp [intOf]; omega)
    · obtain rfl : j = N := by omega
      have l1 : ¬ ((j : Int) < j) := by omega
      have HTK : Hid (xs.take j = xs) := hidden (List.take_of_length_le (by rw [HN.out]; exact Nat.le_refl _))
      rw [HTK.out] at HU
      obtain ⟨v, HBt⟩ : ∃ v, Hid (BAt w.heap.size wr G v (asL xs wide) ∧ Below w.heap.size w wr) := by
        obtain ⟨v, h1⟩ := HU.out
        exact ⟨v, hidden h1⟩
      have HF2 := hidden (HFN.out wr G v HBt.out.1 HBt.out.2)
      clear HFN HVR HXB HU
      go_wp2_with (first | (go_at_call 30; refine HF2.out.mono ?_; rintro e w5 ⟨rfl, H5⟩) | fail)
      go_ret2
      exact ⟨rfl, H5⟩
end Go.Proofs.Ytmohnopegacahaa
