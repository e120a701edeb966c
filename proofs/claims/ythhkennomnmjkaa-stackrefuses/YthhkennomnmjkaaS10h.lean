/- Contracts of package stack's inner methods: the locals, and push. -/
import Derived.Test.YthhkennomnmjkaaS10g
import Derived.Deep.RegionLaw
namespace Go.Proofs.Ythhkennomnmjkaa
open Go.RowKit
set_option maxHeartbeats 1000000
set_option maxRecDepth 100000
set_option linter.unusedVariables false

theorem step_append_at {w : World} {ops : Array Oper} {o : Oper} {a : Act} {K : Act → World → Prop} {Q : Exit → Act → World → Prop} {E : Prop} (hgd : o.guard = none) (s x : Operand)
    (ho : o.op = .call { callee := .builtin .append, args := #[s, x], argTypes := #[24, 24] })
    (base : Nat) (v : Value) (n : Nat) (zs : List Int) (hs : a.eval s = v) (hown : w.ownsRow base 5 1 v n (bytesV zs))
    (ad : Addr) (m c : Nat) (ds : List Int) (hx : a.eval x = .slice (some ad) m c) (hl : ds.length = m) (hnews : ∀ j u, (bytesV ds)[j]? = some u → w.cell? (ad.add j) = some u)
    (h63 : n + m ≤ 4294967296) (hbase : base ≤ w.heap.size) (hm : 0 < m)
    (h : ∀ a' c' w', w'.ownsRow base 5 1 (.slice a' (n + m) c') (n + m) (bytesV (zs ++ ds)) → Hid (Fm w w' (fun k => v.ownBlock = some k) (fun k => (Value.slice a' (n + m) c').ownBlock = some k)) → K (a.put o.dst (.slice a' (n + m) c')) w') :
    if Region.wanted o (yielded ops a.tmps) = true then Oper.wp Try.prog o a w K Q else E := by
  have hw : Region.wanted o (yielded ops a.tmps) = true := by simp [Region.wanted, hgd]
  rw [if_pos hw]
  obtain ⟨i0, hi, hz0, hz1, hz2⟩ := info_parts info8
  obtain ⟨v', w', hr, h2, h3, h4⟩ := run_append_at (P := Try.prog) (w := w) base 24 o.type 5 i0 (.int .u8 0) 1 1 Try.underlying24 hi hz0 hz1 hz2 rfl (by decide) v n (bytesV zs) hown ad m c (bytesV ds) (by simp [bytesV, hl]) hnews (bytesV_one ds) (by unfold maxLen; omega) (by omega) hbase hm
  rw [bytesV_append] at h2
  obtain ⟨a', c', rfl⟩ := own_slice8 h2
  have hK := h a' c' w' h2 (fm_grown h3 h4)
  unfold Oper.wp
  simp [execOp, ho, resolve, invoke, builtin, hs, hx, hr, Result.andThen]
  exact hK
/-- append over an owned row of bytes, as it is run -/
theorem app_run (base n m c0 : Nat) (ad : Addr) (a : Option Addr) (c : Nat) (zs ds : List Int) (w : World) (hown : w.ownsRow base 5 1 (.slice a n c) n (bytesV zs)) (hl : ds.length = m) (hnews : ∀ j u, (bytesV ds)[j]? = some u → w.cell? (ad.add j) = some u)
    (h63 : n + m ≤ 4294967296) (hbase : base ≤ w.heap.size) (hm : 0 < m) :
    ∃ a' c' w', (Builtin.append_ #[24, 24] 24 #[.slice a n c, .slice (some ad) m c0]).run Try.prog w = .ok (.slice a' (n + m) c') w' ∧ w'.ownsRow base 5 1 (.slice a' (n + m) c') (n + m) (bytesV (zs ++ ds)) ∧ Fm w w' (fun k => (Value.slice a n c).ownBlock = some k) (fun k => (Value.slice a' (n + m) c').ownBlock = some k) := by
  obtain ⟨i0, hi, hz0, hz1, hz2⟩ := info_parts info8
  obtain ⟨v', w', hr, h2, h3, h4⟩ := run_append_at (P := Try.prog) (w := w) base 24 24 5 i0 (.int .u8 0) 1 1 Try.underlying24 hi hz0 hz1 hz2 rfl (by decide) (.slice a n c) n (bytesV zs) hown ad m c0 (bytesV ds) (by simp [bytesV, hl]) hnews (bytesV_one ds) (by unfold maxLen; omega) (by omega) hbase hm
  rw [bytesV_append] at h2
  obtain ⟨a', c', rfl⟩ := own_slice8 h2
  exact ⟨a', c', w', hr, h2, fm_grown h3 h4⟩
/-- numbers, one behind the other -/
def putsL (xs : List Nat) : List Int := xs.flatMap (fun x : Nat => putL (x : Int) 4)
theorem putsL_snoc (xs : List Nat) (k : Nat) (h : k < xs.length) : putsL (xs.take (k + 1)) = putsL (xs.take k) ++ putL ((xs.getD k 0 : Nat) : Int) 4 := by
  unfold putsL
  rw [List.take_succ_eq_append_getElem h, List.flatMap_append]
  simp [List.getD_eq_getElem?_getD, h]
theorem putsL_len (xs : List Nat) : (putsL xs).length = 4 * xs.length := by
  induction xs with
  | nil => rfl
  | cons x xs ih =>
    simp only [putsL, List.flatMap_cons, List.length_append, List.length_cons] at ih ⊢
    rw [ih]; simp [putL]; omega
theorem push_step {B : Nat} {w w2 : World} {m : Nat} {v : Value} {s : Ks} {a' : Option Addr} {c' : Nat} {x : Int} {q : Nat} (h : KAt B w m v s) (wp : World) (hb : Below w.heap.size w wp)
    (ho : w2.ownsRow B 5 1 (.slice a' (s.bs.length + 4) c') (s.bs.length + 4) (bytesV (s.bs ++ putL x 4))) (f : Fm wp w2 (fun k => v.ownBlock = some k) (fun k => (Value.slice a' (s.bs.length + 4) c').ownBlock = some k)) :
    KAt B (w2.setCell ⟨m, 1, none⟩ (.slice a' (s.bs.length + 4) c')) m (.slice a' (s.bs.length + 4) c') { s with bs := s.bs ++ putL x 4 } ∧ Fm w (w2.setCell ⟨m, 1, none⟩ (.slice a' (s.bs.length + 4) c')) (TK m v) (TK m (.slice a' (s.bs.length + 4) c')) := by
  have f2 : Fm w w2 (fun k => v.ownBlock = some k) (fun k => (Value.slice a' (s.bs.length + 4) c').ownBlock = some k) := (Fm.same hb).trans f
  have hl : (s.bs ++ putL x 4).length = s.bs.length + 4 := by simp [putL]
  exact h.grown f2 (by rw [hl]; exact ho)
theorem kpush_any (B m ab ac : Nat) (v : Value) (s : Ks) (xs : List Nat) (w : World) (h : KAt B w m v s) (hB : B ≤ w.heap.size) (hL : s.bs.length + 4 * xs.length ≤ 100000) (hx : ∀ x ∈ xs, x < 4294967296) (h0 : 0 < xs.length)
    (hab : ab < w.heap.size) (hna : ¬ TK m v ab) (hc : ∀ i (h : i < xs.length), w.cell? ⟨ab, i, none⟩ = some (.int .u32 (xs.getD i 0 : Nat))) (hac : xs.length ≤ ac) :
    Calls Try.prog 49 #[.pointer (some ⟨m, 0, none⟩), .slice (some ⟨ab, 0, none⟩) xs.length ac] w fun e w' => e = .returned (.tuple #[]) ∧ ∃ v', KAt B w' m v' { s with bs := s.bs ++ putsL xs } ∧ Fm w w' (TK m v) (TK m v') := by
  have HC := hidden hc
  have HK := hidden h
  have HX := hidden hx
  clear hc h hx
  go_enter Try.func49, Try.ntmps49
  go_wp2
  go_loopw [8] (fun i wr => ∃ (k : Nat) (a : Option Addr) (n c : Nat), k ≤ xs.length ∧ i = .int .i64 k ∧ Hid (KAt B wr m (.slice a n c) { s with bs := s.bs ++ putsL (xs.take k) }) ∧ Hid (Fm w wr (TK m v) (TK m (.slice a n c)))) (fun i _ => xs.length - (intOf i).toNat)
  case atStart =>
    obtain ⟨a, c, rfl⟩ := own_slice8 HK.out.row
    refine ⟨0, _, _, _, by omega, rfl, ?_, Fm.same (Below.refl _ _)⟩
    have e : ({ s with bs := s.bs ++ putsL (xs.take 0) } : Ks) = s := by simp [putsL]
    rw [e]; exact HK
  case round =>
    obtain ⟨k, a, n, c, hk, rfl, HK1, HF1⟩ := hrel
    by_cases hlt : k < xs.length
    · have d1 : (k : Int) < (xs.length : Int) := by omega
      have hx0 := HC.out k hlt
      have hcell : wr.cell? ⟨ab, k, none⟩ = some (.int .u32 (xs.getD k 0 : Nat)) := by
        rw [World.cell?_of_block (HF1.out.block ab hab hna)]; exact hx0
      obtain ⟨k0, k1, k2, k3, kf⟩ := HK1.out.cells
      have kl := HK1.out.lt
      have kf1 := kf 1
      have HS := hidden (putsL_snoc xs k hlt)
      have HP := hidden fun wx => putn_4 ((xs.getD k 0 : Nat) : Int) wx
      generalize xs.getD k 0 = x at *
      clear hx0 k0 k2 k3 kf
      obtain ⟨a0, c0, e0⟩ := own_slice8 HK1.out.row
      simp only [Value.slice.injEq] at e0
      obtain ⟨rfl, rfl, rfl⟩ := e0
      have hlen : (s.bs ++ putsL (xs.take k)).length = s.bs.length + 4 * k := by rw [List.length_append, putsL_len, List.length_take]; omega
      have HN : Hid (∀ wy : World, wy.heap = (wr.alloc (.cells (bytesV (putL (x : Int) 4)).toArray 5)).heap → ∀ j u, (bytesV (putL (x : Int) 4))[j]? = some u → wy.cell? ((⟨wr.heap.size, 0, none⟩ : Addr).add j) = some u) := fun wy e j u hj => by
        have := new_cell wr (putL (x : Int) 4) (by unfold maxLen; simp [putL]) j u hj
        unfold World.cell? at this ⊢
        rw [e]; exact this
      have HOW : Hid (∀ wx : World, Below wr.heap.size wr wx → wx.ownsRow B 5 1 (.slice a (s.bs ++ putsL (xs.take k)).length c) (s.bs ++ putsL (xs.take k)).length (bytesV (s.bs ++ putsL (xs.take k)))) := fun wx hb => own_later HK1.out.row hb
      have HST : Hid (∀ (wp w2 : World) (a' : Option Addr) (c' : Nat), Below wr.heap.size wr wp → w2.ownsRow B 5 1 (.slice a' ((s.bs ++ putsL (xs.take k)).length + 4) c') ((s.bs ++ putsL (xs.take k)).length + 4) (bytesV (s.bs ++ putsL (xs.take k) ++ putL (x : Int) 4)) → Fm wp w2 (fun j => (Value.slice a (s.bs ++ putsL (xs.take k)).length c).ownBlock = some j) (fun j => (Value.slice a' ((s.bs ++ putsL (xs.take k)).length + 4) c').ownBlock = some j) → (w2.cell? ⟨m, 1, none⟩ = some (.slice a (s.bs ++ putsL (xs.take k)).length c) ∧ w2.frozen? ⟨m, 1, none⟩ = false) ∧ KAt B (w2.setCell ⟨m, 1, none⟩ (.slice a' ((s.bs ++ putsL (xs.take k)).length + 4) c')) m (.slice a' ((s.bs ++ putsL (xs.take k)).length + 4) c') { s with bs := s.bs ++ putsL (xs.take (k + 1)) } ∧ Fm w (w2.setCell ⟨m, 1, none⟩ (.slice a' ((s.bs ++ putsL (xs.take k)).length + 4) c')) (TK m v) (TK m (.slice a' ((s.bs ++ putsL (xs.take k)).length + 4) c'))) := fun wp w2 a' c' hb ho f => by
        obtain ⟨g1, g2⟩ := push_step (q := 0) HK1.out wp hb ho f
        have hm2 : w2.heap[m]? = wr.heap[m]? := (f.block m (Nat.lt_of_lt_of_le kl hb.size) HK1.out.ne).trans (hb.block m kl)
        refine ⟨⟨by rw [World.cell?_of_block hm2]; exact k1, by rw [World.frozen?_of_block hm2]; exact kf1⟩, ?_, HF1.out.trans g2⟩
        rw [HS.out, ← List.append_assoc]
        exact g1
      have HBR : Hid (B ≤ wr.heap.size) := Nat.le_trans hB HF1.out.size
      have hLb : (s.bs ++ putsL (xs.take k)).length ≤ 100000 := by omega
      clear HS HK1 HF1 hlen
      generalize (s.bs ++ putsL (xs.take k)).length = L at *
      have HDL := hidden (show (putL (x : Int) 4).length = 4 from rfl)
      generalize putL (x : Int) 4 = D at *
      have hD : D.length = 4 := by have := HDL.out; exact this
      have hBr : B ≤ wr.heap.size := HBR.out
      have hbp : Below wr.heap.size wr (wr.drew.alloc (.cells (bytesV D).toArray 5)) := ((Below.refl _ _).drew).alloc (Nat.le_refl _) _
      clear hbp hBr
      go_wp2
      go_region_law (first | (refine step_append_at (by rfl) _ _ (by rfl) B _ L _ (by rfl) (HOW.out _ (((Below.refl _ _).alloc (Nat.le_refl _) _).drew)) _ 4 4 D (by rfl) hD (HN.out _ (by rfl)) (by omega) (by have := HBR.out; simp; omega) (by omega) ?_; intro a2 c2 w2 ho2 f2; obtain ⟨⟨q1, q2⟩, g1, g2⟩ := HST.out _ _ _ _ (((Below.refl _ _).alloc (Nat.le_refl _) _).drew) ho2 f2.out; have G := hidden (And.intro g1 g2); clear g1 g2 ho2 f2) | (go_simp; (with_reducible refine (HP.out _).mono ?_); rintro e w1 ⟨rfl, rfl⟩) | fail)
      all_goals (
        go_wp2
        go_roundw
        case rel => exact ⟨k + 1, a2, _, c2, by omega, int_eq (by omega), G.out.1, G.out.2⟩
        case measure => simp [intOf]; omega)
    · obtain rfl : k = xs.length := by omega
      have d1 : ¬ (xs.length : Int) < (xs.length : Int) := by omega
      rw [List.take_length] at HK1
      go_wp2
      refine bodyPost_end (v := .tuple #[]) (by simp [results, Try.results49, go_sem]) rfl ⟨rfl, _, HK1.out, HF1.out⟩
end Go.Proofs.Ythhkennomnmjkaa
