/- Layer 13: the document's memory (package grottoref09): fresh, New, may, Write of a byte. Layer 13: the document's memory: New. Layer 13: the document's memory: may and Write of a byte. -/
import Derived.Test.YtpgppdkbkkljnaaF13A
import Derived.Test.YtpgppdkbkkljnaaH7m
import Derived.Deep.RegionLaw
import Derived.Laws.AppendOwnNone
namespace Go.Proofs.Ytpgppdkbkkljnaa
open Go.RowKit
set_option maxHeartbeats 1000000
set_option maxRecDepth 100000
set_option linter.unusedVariables false

theorem fm_grownV {w w' : World} {v v' : Value} (h : w.grownBy w' v.ownBlock) (hat : ∀ k, v'.ownBlock = some k → v.ownBlock = some k ∨ w.heap.size ≤ k) : Fm w w' (fun k => v.ownBlock = some k) (fun k => v'.ownBlock = some k) :=
  ⟨h.os, h.tape, h.output, h.size, fun k hk hn => h.block k hk (fun e => hn e.symm), hat⟩
theorem app_reads (base g n c m c0 : Nat) (sa : Option Addr) (zs ds : List Int) (w : World) (hown : w.ownsRow base 5 1 (.slice (some ⟨g, 0, none⟩) n c) n (bytesV zs)) (hr : Reads w sa m c0 ds) (h63 : n + m ≤ 4294967296) (hbase : base ≤ w.heap.size) :
    ∃ g' c' w', (∀ ty, (Builtin.append_ #[50, 50] ty #[.slice (some ⟨g, 0, none⟩) n c, .slice sa m c0]).run Try.prog w = .ok (.slice (some ⟨g', 0, none⟩) (n + m) c') w') ∧ w'.ownsRow base 5 1 (.slice (some ⟨g', 0, none⟩) (n + m) c') (n + m) (bytesV (zs ++ ds)) ∧ Fm w w' (fun k => (Value.slice (some ⟨g, 0, none⟩) n c).ownBlock = some k) (fun k => (Value.slice (some ⟨g', 0, none⟩) (n + m) c').ownBlock = some k) := by
  obtain ⟨i0, hi, hz0, hz1, hz2⟩ := info_parts info8
  have hl := hr.1
  by_cases hm : m = 0
  · subst hm
    obtain rfl : ds = [] := List.eq_nil_of_length_eq_zero hl
    cases sa with
    | none =>
      have h0 : c0 = 0 := by
        rcases hr.2.2 with ⟨_, _, h⟩ | ⟨x, h, _⟩
        · exact h
        · cases h
      subst h0
      exact ⟨g, c, w, fun ty => run_append_owned_none (P := Try.prog) (w := w) base 50 ty 5 i0 1 Try.underlying50 hi _ n _ hown, by simpa using hown, Fm.same (Below.refl _ _)⟩
    | some x =>
      obtain ⟨cur, h1, h2, h3, h4, h5, h6, h7⟩ := own8_cur hown
      refine ⟨g, c, _, fun ty => run_append_room (P := Try.prog) w 50 ty 5 i0 Try.underlying50 hi g n c cur.toArray h2 x 0 c0 [] (by simp) (by simp) (by simp) (by omega) (by simp [hz1]; omega), ?_, ?_⟩
      · have hs := setRow_heap w g cur.toArray (cur.toArray.toList.take (n * i0.size) ++ [] ++ cur.toArray.toList.drop (n * i0.size + ([] : List Value).length)).toArray 5 (0, 0) h2
        refine own8_of (zs := zs ++ []) h1 hs (by omega) h4 (by simp [hz1]; omega) ?_ (by simp [h7])
        simp only [List.append_nil, Nat.add_zero, List.length_nil]
        simpa using h6
      · exact ⟨rfl, rfl, rfl, by simp [World.setRow], fun k _ hk => setRow_other w g k _ (fun e => hk (by rw [e]; rfl)), fun k hk => .inl hk⟩
  · obtain ⟨x, rfl⟩ : ∃ x, sa = some x := by
      rcases hr.2.2 with ⟨_, h, _⟩ | ⟨x, h, _⟩
      · omega
      · exact ⟨x, h⟩
    have key : ∀ ty, ∃ v' w', (Builtin.append_ #[50, 50] ty #[.slice (some ⟨g, 0, none⟩) n c, .slice (some x) m c0]).run Try.prog w = .ok v' w' ∧ w'.ownsRow base 5 1 v' (n + m) (bytesV zs ++ bytesV ds) ∧ w.grownBy w' (Value.slice (some ⟨g, 0, none⟩) n c).ownBlock ∧ (∀ k, v'.ownBlock = some k → (Value.slice (some ⟨g, 0, none⟩) n c).ownBlock = some k ∨ w.heap.size ≤ k) := fun ty => run_append_at (P := Try.prog) (w := w) base 50 ty 5 i0 (.int .u8 0) 1 1 Try.underlying50 hi hz0 hz1 hz2 rfl (by decide) _ n (bytesV zs) hown x m c0 (bytesV ds) (by simp [bytesV, hl]) hr.news (bytesV_one ds) (by unfold maxLen; omega) (by omega) hbase (by omega)
    obtain ⟨v', w', hr1, h2, h3, h4⟩ := key 50
    rw [bytesV_append] at h2
    obtain ⟨g', c', rfl, _, _⟩ := owned_shape h2 (by omega)
    exact ⟨g', c', w', fun ty => hr1, h2, fm_grownV h3 h4⟩
theorem wpList_appR {w : World} {ops : Array Oper} {rest : List Oper} {o : Oper} {a : Act} {Q : Exit → Act → World → Prop} (hgd : o.guard = none) (s x : Operand)
    (ho : o.op = .call { callee := .builtin .append, args := #[s, x], argTypes := #[50, 50] })
    (base g n c m c0 : Nat) (sa : Option Addr) (zs ds : List Int) (hs : a.eval s = .slice (some ⟨g, 0, none⟩) n c) (hx : a.eval x = .slice sa m c0) (hown : w.ownsRow base 5 1 (.slice (some ⟨g, 0, none⟩) n c) n (bytesV zs)) (hr : Reads w sa m c0 ds) (h63 : n + m ≤ 4294967296) (hbase : base ≤ w.heap.size)
    (h : ∀ g' c' w', w'.ownsRow base 5 1 (.slice (some ⟨g', 0, none⟩) (n + m) c') (n + m) (bytesV (zs ++ ds)) → Hid (Fm w w' (fun k => (Value.slice (some ⟨g, 0, none⟩) n c).ownBlock = some k) (fun k => (Value.slice (some ⟨g', 0, none⟩) (n + m) c').ownBlock = some k)) → wpList Try.prog ops Q rest (a.put o.dst (.slice (some ⟨g', 0, none⟩) (n + m) c')) w') : wpList Try.prog ops Q (o :: rest) a w := by
  refine wpList_plain hgd fun K hK => ?_
  obtain ⟨g', c', w', hrun, h1, h2⟩ := app_reads base g n c m c0 sa zs ds w hown hr h63 hbase
  unfold Oper.wp
  simp [execOp, ho, resolve, invoke, builtin, hs, hx, hrun, Result.andThen]
  exact hK _ _ (h g' c' w' h1 h2)
theorem wpList_copyOf {w0 : World} {ops : Array Oper} {rest : List Oper} {o : Oper} {a : Act} {Q : Exit → Act → World → Prop} (hgd : o.guard = none) (s x : Operand)
    (ho : o.op = .call { callee := .builtin .append, args := #[s, x], argTypes := #[50, 50] })
    (m c0 : Nat) (sa : Option Addr) (ds : List Int) (hs : a.eval s = .slice (some ⟨w0.heap.size, 0, none⟩) 0 0) (hx : a.eval x = .slice sa m c0) (hr : Reads w0 sa m c0 ds) (h63 : m ≤ 4294967296)
    (h : ∀ g' c' w', w'.ownsRow w0.heap.size 5 1 (.slice (some ⟨g', 0, none⟩) m c') m (bytesV ds) → Below w0.heap.size w0 w' → wpList Try.prog ops Q rest (a.put o.dst (.slice (some ⟨g', 0, none⟩) m c')) w') : wpList Try.prog ops Q (o :: rest) a (w0.alloc (.cells #[] 5)) := by
  have hb : Below w0.heap.size w0 (w0.alloc (.cells #[] 5)) := (Below.refl _ _).alloc (Nat.le_refl _) _
  have hm := World.ownsRow_made (base := w0.heap.size) (e := 5) (size := 1) w0 #[] 0 (Nat.le_refl _) (Nat.zero_le _) (by simp)
  refine wpList_appR hgd s x ho w0.heap.size w0.heap.size 0 0 m c0 sa [] ds hs hx hm (hr.later hb) (by omega) hb.size ?_
  intro g' c' w' ho' f
  rw [Nat.zero_add, List.nil_append] at ho'
  rw [Nat.zero_add]
  exact h g' c' w' ho' (hb.trans (f.out.below hb.size (fun k e => by simp only [Value.ownBlock, Option.some.injEq] at e; omega)))
theorem step_copyOf {w : World} {ops : Array Oper} {o : Oper} {a : Act} {K : Act → World → Prop} {Q : Exit → Act → World → Prop} {E : Prop} (hgd : o.guard = none) (s x : Operand)
    (ho : o.op = .call { callee := .builtin .append, args := #[s, x], argTypes := #[50, 50] })
    (base g m c0 : Nat) (sa : Option Addr) (ds : List Int) (hs : a.eval s = .slice (some ⟨g, 0, none⟩) 0 0) (hx : a.eval x = .slice sa m c0) (hown : w.ownsRow base 5 1 (.slice (some ⟨g, 0, none⟩) 0 0) 0 (bytesV [])) (hr : Reads w sa m c0 ds) (h63 : m ≤ 4294967296) (hbase : base ≤ w.heap.size)
    (h : ∀ g' c' w', w'.ownsRow base 5 1 (.slice (some ⟨g', 0, none⟩) m c') m (bytesV ds) → Below base w w' → K (a.put o.dst (.slice (some ⟨g', 0, none⟩) m c')) w') :
    if Region.wanted o (yielded ops a.tmps) = true then Oper.wp Try.prog o a w K Q else E := by
  have hw : Region.wanted o (yielded ops a.tmps) = true := by simp [Region.wanted, hgd]
  rw [if_pos hw]
  obtain ⟨g', c', w', hrun, h1, h2⟩ := app_reads base g 0 0 m c0 sa [] ds w hown hr (by omega) hbase
  rw [Nat.zero_add, List.nil_append] at h1
  rw [Nat.zero_add] at hrun
  have hK := h g' c' w' h1 (h2.below hbase (fun k e => (hown.lt k e).1))
  unfold Oper.wp
  simp [execOp, ho, resolve, invoke, builtin, hs, hx, hrun, Result.andThen]
  exact hK
theorem made0 (w : World) : (w.alloc (.cells #[] 5)).ownsRow w.heap.size 5 1 (.slice (some ⟨w.heap.size, 0, none⟩) 0 0) 0 (bytesV []) :=
  World.ownsRow_made (base := w.heap.size) (e := 5) (size := 1) w #[] 0 (Nat.le_refl _) (Nat.zero_le _) (by simp)
theorem dfresh_any (a : Option Addr) (L cap EN : Nat) (zs : List Int) (w : World) (h : Reads w a L cap zs) (hL : L ≤ EN) (hE : EN ≤ 1048576) :
    Calls Try.prog 43 #[.slice a L cap, .int .i64 EN] w fun e w' => ∃ g c, e = .returned (.slice (some ⟨g, 0, none⟩) EN c) ∧ w'.ownsRow w.heap.size 5 1 (.slice (some ⟨g, 0, none⟩) EN c) EN (bytesV (zs ++ zer8 (EN - L))) ∧ Below w.heap.size w w' := by
  have HR := hidden h
  clear h
  go_enter Try.func43, Try.ntmps43
  go_upto_region 2 with (at_builtin; refine wpList_copyOf (by rfl) (.tmp 6) (.tmp 7) (by rfl) L cap a zs (by rfl) (by rfl) HR.out (by omega) ?_; intro g1 c1 w1 ho1 hb1; refine Hid.out ?_)
  obtain ⟨g2, c2, w2, hrun, ho2, f2⟩ := app0_any .i64 .i64 3 Try.underlying3 w.heap.size g1 L c1 (EN - L) zs w1 ho1 hb1.size (by omega)
  rw [show L + (EN - L) = EN by omega] at hrun ho2
  have hg1 := (ho1.lt g1 rfl).1
  have HB := hidden (hb1.trans (f2.below hb1.size (fun k e => by subst e; exact hg1)))
  have HO := hidden ho2
  have hs : ((EN : Int) - (L : Int)) = ((EN - L : Nat) : Int) := by omega
  have hw : IntKind.i64.wrap ((EN - L : Nat) : Int) = ((EN - L : Nat) : Int) := by rw [IntKind.wrap_i64]; omega
  have HRUN := hidden hrun
  clear ho1 hb1 ho2 f2 hrun hg1 HR
  generalize hX : EN - L = X at *
  have HX := hidden hX
  clear hX
  refine hidden ?_
  go_wp2_with (at_builtin; refine Lib.wpList_append_run _ rfl (.tmp 9) (.tmp 13) 50 3 rfl _ _ rfl rfl _ _ (HRUN.out _) ?_)
  go_ret
  rw [HX.out]
  exact ⟨g2, c2, rfl, HO.out, HB.out⟩
theorem step_copyOf2 {w : World} {ops : Array Oper} {o : Oper} {a : Act} {K : Act → World → Prop} {Q : Exit → Act → World → Prop} {E : Prop} (hgd : o.guard = none) (s x : Operand)
    (ho : o.op = .call { callee := .builtin .append, args := #[s, x], argTypes := #[50, 50] })
    (base g m c0 : Nat) (sa : Option Addr) (ds : List Int) (hs : a.eval s = .slice (some ⟨g, 0, none⟩) 0 0) (hx : a.eval x = .slice sa m c0) (hown : w.ownsRow base 5 1 (.slice (some ⟨g, 0, none⟩) 0 0) 0 (bytesV [])) (hr : Reads w sa m c0 ds) (h63 : m ≤ 4294967296) (hbase : base ≤ w.heap.size)
    (h : ∀ g' c' w', w'.ownsRow base 5 1 (.slice (some ⟨g', 0, none⟩) m c') m (bytesV ds) → Below base w w' → Fm w w' (fun k => k = g) (fun k => k = g') → K (a.put o.dst (.slice (some ⟨g', 0, none⟩) m c')) w') :
    if Region.wanted o (yielded ops a.tmps) = true then Oper.wp Try.prog o a w K Q else E := by
  have hw : Region.wanted o (yielded ops a.tmps) = true := by simp [Region.wanted, hgd]
  rw [if_pos hw]
  obtain ⟨g', c', w', hrun, h1, h2⟩ := app_reads base g 0 0 m c0 sa [] ds w hown hr (by omega) hbase
  rw [Nat.zero_add, List.nil_append] at h1
  rw [Nat.zero_add] at hrun
  have hK := h g' c' w' h1 (h2.below hbase (fun k e => (hown.lt k e).1)) ⟨h2.os, h2.tape, h2.output, h2.size, fun k hk hn => h2.block k hk (fun e => hn (by simp only [Value.ownBlock, Option.some.injEq] at e; exact e.symm)), fun k e => by
    rcases h2.row k (by rw [e]; rfl) with q | q
    · simp only [Value.ownBlock, Option.some.injEq] at q; exact .inl q.symm
    · exact .inr q⟩
  unfold Oper.wp
  simp [execOp, ho, resolve, invoke, builtin, hs, hx, hrun, Result.andThen]
  exact hK
theorem row_other {B : Nat} {w w' : World} {g g' x n c : Nat} {zs : List Int} (h : w.ownsRow B 5 1 (.slice (some ⟨x, 0, none⟩) n c) n (bytesV zs)) (f : Fm w w' (fun k => k = g) (fun k => k = g')) (hne : x ≠ g) : w'.ownsRow B 5 1 (.slice (some ⟨x, 0, none⟩) n c) n (bytesV zs) :=
  own8_fm f h (fun k e1 e2 => by simp only [Value.ownBlock, Option.some.injEq] at e1; exact hne (e1.trans e2))
/-- the document's memory: its own cells -/
def DBox (w : World) (d : Nat) (bv gv hv : Value) (v ram ext en st start tab sm : Int) : Prop := w.heap[d]? = some (.cells #[bv, gv, .int .u32 v, .int .u32 ram, .int .u32 ext, .int .u32 en, .int .u32 st, .int .u32 start, .int .u32 tab, .int .u32 sm, hv, .int .i64 0, .int .i64 0] 110 (0, 0))
/-- its bytes, of which those from RamStart on may be written -/
def DMem (B : Nat) (w : World) (d : Nat) (g c : Nat) (ram : Nat) (bs : List Int) : Prop := B ≤ d ∧ (∃ gv hv v ext en st start tab sm, DBox w d (.slice (some ⟨g, 0, none⟩) bs.length c) gv hv v ram ext en st start tab sm) ∧ w.ownsRow B 5 1 (.slice (some ⟨g, 0, none⟩) bs.length c) bs.length (bytesV bs)
theorem made0g (w : World) (g B : Nat) (hg : g = w.heap.size) (hB : B ≤ w.heap.size) : (w.alloc (.cells #[] 5)).ownsRow B 5 1 (.slice (some ⟨g, 0, none⟩) 0 0) 0 (bytesV []) := by
  subst hg
  exact own_base (made0 w) hB
/-- what the document's New answers -/
def NRet (R : Nat) (bs : List Int) (w : World) (e : Ending) (w' : World) : Prop := ∃ d g c, e = .returned (.tuple #[.pointer (some ⟨d, 0, none⟩), .int .i64 0, .int .i64 36]) ∧ DMem w.heap.size w' d g c R bs ∧ Below w.heap.size w w'
end Go.Proofs.Ytpgppdkbkkljnaa
namespace Go.Proofs.Ytpgppdkbkkljnaa
open Go.RowKit
set_option maxHeartbeats 1000000
set_option maxRecDepth 100000
set_option linter.unusedVariables false

set_option maxHeartbeats 20000000 in
theorem dnew_any (a : Option Addr) (L cap : Nat) (zs : List Int) (w : World) (h : Reads w a L cap zs) (hb : OkB zs) (hL : L ≤ 65536) (v ext st start tab sm : Int) (R EN : Nat) (hp : parseH zs = (⟨v, R, ext, EN, st, start, tab, sm⟩, 0, 36)) (hen : EN ≤ 1048576) (hle : L ≤ EN) :
    Calls Try.prog 26 #[.slice a L cap] w (NRet R (zs ++ zer8 (EN - L)) w) := by
  have HP := hidden (rparse_any a L cap zs w h hb (by omega))
  rw [hp] at HP
  have HR := hidden h
  clear h hp
  go_enter Try.func26, Try.ntmps26
  go_wp2_with fail
  refine HP.out.mono ?_
  rintro e w1 ⟨rfl, hb1⟩
  unfold hdV
  dsimp only
  go_wp2_with fail
  have hb2 : Below w.heap.size w (w1.alloc (.cells #[.int .u32 v, .int .u32 (R : Int), .int .u32 ext, .int .u32 (EN : Int), .int .u32 st, .int .u32 start, .int .u32 tab, .int .u32 sm] 70)) := hb1.alloc hb1.size _
  have hbx : HBox (w1.alloc (.cells #[.int .u32 v, .int .u32 (R : Int), .int .u32 ext, .int .u32 (EN : Int), .int .u32 st, .int .u32 start, .int .u32 tab, .int .u32 sm] 70)) w1.heap.size ⟨v, R, ext, EN, st, start, tab, sm⟩ := HBox.new w1 ⟨v, R, ext, EN, st, start, tab, sm⟩
  obtain ⟨x0, x1, x2, x3, x4, x5, x6, x7⟩ := hbx.cells
  generalize w1.alloc (.cells #[.int .u32 v, .int .u32 (R : Int), .int .u32 ext, .int .u32 (EN : Int), .int .u32 st, .int .u32 start, .int .u32 tab, .int .u32 sm] 70) = w2 at *
  generalize w1.heap.size = H at *
  have hw : IntKind.i64.wrap (EN : Int) = EN := by rw [IntKind.wrap_i64]; omega
  have HF : Hid (∀ wx, Below w2.heap.size w2 wx → Calls Try.prog 43 #[.slice a L cap, .int .i64 EN] wx fun e w' => ∃ g c, e = .returned (.slice (some ⟨g, 0, none⟩) EN c) ∧ w'.ownsRow w2.heap.size 5 1 (.slice (some ⟨g, 0, none⟩) EN c) EN (bytesV (zs ++ zer8 (EN - L))) ∧ Below w2.heap.size w2 w' ∧ Below wx.heap.size wx w' ∧ wx.heap.size ≤ g ∧ g < w'.heap.size) := hidden (fun wx hx => (dfresh_any a L cap EN zs wx ((HR.out.later hb2).later hx) hle hen).mono (fun e w' h => by
    obtain ⟨g, c, h1, h2, h3⟩ := h
    exact ⟨g, c, h1, own_base h2 hx.size, hx.trans (h3.mono hx.size), h3, (h2.lt g rfl).1, (h2.lt g rfl).2⟩))
  have hH := hbx.lt
  have HBX := hidden hbx
  have HB2 := hidden hb2
  have hs2 : w2.heap.size ≤ w2.heap.size := Nat.le_refl _
  clear hb2 hb1 hbx
  go_upto_region 4 with fail
  go_region_held3 (fun w' => Below w2.heap.size w2 w' ∧ w'.cell? ⟨H, 0, none⟩ = some (.int .u32 v) ∧ w'.cell? ⟨H, 1, none⟩ = some (.int .u32 (R : Int)) ∧ w'.cell? ⟨H, 2, none⟩ = some (.int .u32 ext) ∧ w'.cell? ⟨H, 3, none⟩ = some (.int .u32 (EN : Int)) ∧ w'.cell? ⟨H, 4, none⟩ = some (.int .u32 st) ∧ w'.cell? ⟨H, 5, none⟩ = some (.int .u32 start) ∧ w'.cell? ⟨H, 6, none⟩ = some (.int .u32 tab) ∧ w'.cell? ⟨H, 7, none⟩ = some (.int .u32 sm)) (first | assumption | exact ⟨(by repeat (first | exact Below.refl _ _ | assumption | exact And.left (by assumption) | apply Below.drew | (refine Below.alloc ?_ (by first | omega | (simp; omega) | simp) _))), by assumption, by assumption, by assumption, by assumption, by assumption, by assumption, by assumption, by assumption⟩ | (refine ⟨(by repeat (first | exact Below.refl _ _ | assumption | exact And.left (by assumption) | apply Below.drew | (refine Below.alloc ?_ (by first | omega | (simp; omega) | simp) _))), ?_⟩; go_keep) | go_keep) (first | (refine step_copyOf2 (by rfl) _ _ (by rfl) w2.heap.size _ L cap a zs (by rfl) (by rfl) (by repeat (first | exact made0g _ _ _ (by first | rfl | simp) (by first | omega | (simp; omega) | simp) | refine World.ownsRow.alloc ?_ _ | refine own_later ?_ hx5 | refine own_later ?_ (Below.refl _ _).drew)) ((HR.out.later HB2.out).later (by repeat (first | exact Below.refl _ _ | assumption | exact And.left (by assumption) | apply Below.drew | (refine Below.alloc ?_ (by first | omega | (simp; omega) | simp) _)))) (by omega) (by first | omega | (simp; omega) | simp) ?_; intro g6 c6 w6 ho6 hb6 hf6; (first | (have ho56 := row_other (show World.ownsRow _ w2.heap.size 5 1 (.slice (some ⟨g5, 0, none⟩) EN c5) EN (bytesV (zs ++ zer8 (EN - L))) from (by repeat (first | exact ho5 | refine World.ownsRow.alloc ?_ _))) hf6 (by first | omega | (simp at hl5 hg5 ⊢; omega))) | skip); have hb26 : Below w2.heap.size w2 w6 := Below.trans (by repeat (first | exact Below.refl _ _ | assumption | exact And.left (by assumption) | apply Below.drew | (refine Below.alloc ?_ (by first | omega | (simp; omega) | simp) _))) hb6; have hs6 := hb26.size; obtain ⟨y0, y1, y2, y3, y4, y5, y6, y7⟩ := (HBX.out.later hb26).cells; skip) | (go_simp; (with_reducible refine (HF.out _ (by repeat (first | exact Below.refl _ _ | assumption | exact And.left (by assumption) | apply Below.drew | (refine Below.alloc ?_ (by first | omega | (simp; omega) | simp) _)))).mono ?_); rintro e w5 ⟨g5, c5, rfl, ho5, hb5, hx5, hg5, hl5⟩; have hs5 := hb5.size; obtain ⟨z0, z1, z2, z3, z4, z5, z6, z7⟩ := (HBX.out.later hb5).cells; skip) | fail)
  all_goals (try go_wp2)
  all_goals (
    (first
      | ((with_reducible change bodyPost _ _ _ _ _ (World.alloc (World.alloc w6 _) _)); refine bodyPost_ret (v := .tuple #[.pointer (some ⟨w6.heap.size + 1, 0, none⟩), .int .i64 0, .int .i64 36]) (by simp [results, Try.results26, go_sem]) rfl ⟨w6.heap.size + 1, g5, c5, rfl, ?_, ?_⟩)
      | refine bodyPost_ret (v := .tuple #[.pointer (some ⟨w6.heap.size, 0, none⟩), .int .i64 0, .int .i64 36]) (by simp [results, Try.results26, go_sem]) rfl ⟨w6.heap.size, g5, c5, rfl, ?_, ?_⟩)
    · have hlz : (zs ++ zer8 (EN - L)).length = EN := by rw [List.length_append, zer8_len, HR.out.1]; omega
      have hsz := HB2.out.size
      unfold DMem
      rw [hlz]
      refine ⟨by omega, ⟨_, _, _, _, _, _, _, _, _, (by first | exact heap_alloc_new _ _ | (have h9 := heap_alloc_new (w6.alloc (.cells #[.int .i64 1048576, .int .i64 0, .int .i64 0, .slice none 0 0] 108)) (.cells #[.slice (some ⟨g5, 0, none⟩) EN c5, .slice (some ⟨g6, 0, none⟩) L c6, .int .u32 v, .int .u32 R, .int .u32 ext, .int .u32 EN, .int .u32 st, .int .u32 start, .int .u32 tab, .int .u32 sm, .pointer (some ⟨w6.heap.size, 0, none⟩), .int .i64 0, .int .i64 0] 110); have h8 : (w6.alloc (.cells #[.int .i64 1048576, .int .i64 0, .int .i64 0, .slice none 0 0] 108)).heap.size = w6.heap.size + 1 := (by simp); rw [h8] at h9; exact h9))⟩, own_base (by repeat (first | exact ho56 | refine World.ownsRow.alloc ?_ _)) hsz⟩
    · have hsz := HB2.out.size
      refine HB2.out.trans (Below.mono (B := w2.heap.size) ?_ hsz)
      exact (by repeat (first | exact Below.refl _ _ | assumption | exact And.left (by assumption) | apply Below.drew | (refine Below.alloc ?_ (by first | omega | (simp; omega) | simp) _))))
end Go.Proofs.Ytpgppdkbkkljnaa
namespace Go.Proofs.Ytpgppdkbkkljnaa
open Go.RowKit
set_option maxHeartbeats 1000000
set_option maxRecDepth 100000
set_option linter.unusedVariables false

theorem DMem.cells {B : Nat} {w : World} {d g c ram : Nat} {bs : List Int} (h : DMem B w d g c ram bs) : w.cell? ⟨d, 0, none⟩ = some (.slice (some ⟨g, 0, none⟩) bs.length c) ∧ w.cell? ⟨d, 3, none⟩ = some (.int .u32 ram) := by
  obtain ⟨_, ⟨gv, hv, v, ext, en, st, start, tab, sm, hb⟩, _⟩ := h
  unfold DBox at hb
  exact ⟨by simp [World.cell?, hb], by simp [World.cell?, hb]⟩
theorem DMem.lt {B : Nat} {w : World} {d g c ram : Nat} {bs : List Int} (h : DMem B w d g c ram bs) : d < w.heap.size := by
  obtain ⟨_, ⟨gv, hv, v, ext, en, st, start, tab, sm, hb⟩, _⟩ := h
  exact (Array.getElem?_eq_some_iff.1 hb).1
theorem DMem.row {B : Nat} {w : World} {d g c ram : Nat} {bs : List Int} (h : DMem B w d g c ram bs) : w.ownsRow B 5 1 (.slice (some ⟨g, 0, none⟩) bs.length c) bs.length (bytesV bs) := h.2.2
theorem DMem.ne {B : Nat} {w : World} {d g c ram : Nat} {bs : List Int} (h : DMem B w d g c ram bs) : d ≠ g := by
  obtain ⟨_, ⟨gv, hv, v, ext, en, st, start, tab, sm, hb⟩, ho⟩ := h
  obtain ⟨cur, _, h2, _⟩ := own8_cur ho
  rintro rfl
  unfold DBox at hb
  rw [h2] at hb
  simp at hb
theorem DMem.later {B : Nat} {w w' : World} {d g c ram : Nat} {bs : List Int} (h : DMem B w d g c ram bs) (hb : Below w.heap.size w w') : DMem B w' d g c ram bs := by
  have hl := h.lt
  obtain ⟨h1, ⟨gv, hv, v, ext, en, st, start, tab, sm, hbx⟩, ho⟩ := h
  exact ⟨h1, ⟨gv, hv, v, ext, en, st, start, tab, sm, (hb.block d hl).trans hbx⟩, own_later ho hb⟩
theorem DMem.fm {B : Nat} {w w' : World} {T T' : Nat → Prop} {d g c ram : Nat} {bs : List Int} (h : DMem B w d g c ram bs) (f : Fm w w' T T') (h1 : ¬ T d) (h2 : ¬ T g) : DMem B w' d g c ram bs := by
  have hl := h.lt
  obtain ⟨q1, ⟨gv, hv, v, ext, en, st, start, tab, sm, hbx⟩, ho⟩ := h
  exact ⟨q1, ⟨gv, hv, v, ext, en, st, start, tab, sm, (f.block d hl h1).trans hbx⟩, own8_fm f ho (fun k e => by simp only [Value.ownBlock, Option.some.injEq] at e; rw [← e]; exact h2)⟩
theorem DMem.put {B : Nat} {w : World} {d g c ram : Nat} {bs : List Int} (h : DMem B w d g c ram bs) (i : Nat) (hi : i < bs.length) (V : Int) : DMem B (w.setCell ⟨g, i, none⟩ (.int .u8 V)) d g c ram (bs.set i V) := by
  have hne := h.ne
  have hl := h.lt
  obtain ⟨q1, ⟨gv, hv, v, ext, en, st, start, tab, sm, hbx⟩, ho⟩ := h
  refine ⟨q1, ⟨gv, hv, v, ext, en, st, start, tab, sm, ?_⟩, ?_⟩
  · rw [List.length_set]
    unfold DBox at *
    have f : Fm w (w.setCell ⟨g, i, none⟩ (.int .u8 V)) (fun k => k = g) (fun k => k = g) := (Fm.same (Below.refl _ _)).set g i _ rfl
    rw [f.block d hl hne]; exact hbx
  · rw [List.length_set]; exact own8_put ho i hi V
theorem dmay_yes (B : Nat) (w : World) (d g c ram : Nat) (bs : List Int) (h : DMem B w d g c ram bs) (a n : Nat) (ha : ram ≤ a) (hl : a + n ≤ bs.length) (hb : bs.length ≤ 1048576) :
    Calls Try.prog 45 #[.pointer (some ⟨d, 0, none⟩), .int .u32 a, .int .i64 n] w fun e w' => e = .returned (.bool true) ∧ w' = w := by
  obtain ⟨c0, c3⟩ := h.cells
  have e1 : IntKind.i64.wrap (a : Int) = a := by rw [IntKind.wrap_i64]; omega
  have e2 : IntKind.i64.wrap (ram : Int) = ram := by rw [IntKind.wrap_i64]; omega
  have e3 : IntKind.i64.wrap ((a : Int) + n) = ((a + n : Nat) : Int) := by rw [IntKind.wrap_i64]; omega
  have l1 : (ram : Int) ≤ a := by omega
  have l2 : ((a + n : Nat) : Int) ≤ (bs.length : Int) := by omega
  generalize hLL : bs.length = LL at *
  clear h hLL
  generalize hS : a + n = S at *
  clear hS
  go_enter Try.func45, Try.ntmps45
  go_wp2
  go_ret
  exact ⟨rfl, rfl⟩
theorem dsized1 (w : World) : Calls Try.prog 44 #[.int .i64 1] w fun e w' => e = .returned (.bool true) ∧ w' = w := by
  go_enter Try.func44, Try.ntmps44
  go_wp2
  go_ret
  exact ⟨rfl, rfl⟩
theorem dwrite1 (B : Nat) (w : World) (d g c ram : Nat) (bs : List Int) (h : DMem B w d g c ram bs) (a : Nat) (x : Int) (ha : ram ≤ a) (hl : a < bs.length) (hb : bs.length ≤ 1048576) (x0 : 0 ≤ x) (x1 : x ≤ 255) :
    Calls Try.prog 27 #[.pointer (some ⟨d, 0, none⟩), .int .u32 a, .int .i64 1, .int .u32 x] w fun e w' => e = .returned (.int .i64 0) ∧ DMem B w' d g c ram (bs.set a x) ∧ Fm w w' (fun k => k = g) (fun k => k = g) := by
  obtain ⟨c0, c3⟩ := h.cells
  have HMY := hidden (dmay_yes B w d g c ram bs h a 1 ha (by omega) hb)
  have hcl := owned_cells h.row a hl
  rw [Nat.zero_add] at hcl
  have hfz : w.frozen? ⟨g, a, none⟩ = false := h.row.frozenAt a
  have HP := hidden (h.put a hl x)
  have HF : Hid (Fm w (w.setCell ⟨g, a, none⟩ (.int .u8 x)) (fun k => k = g) (fun k => k = g)) := hidden ((Fm.same (Below.refl _ _)).set g a _ rfl)
  have e1 : IntKind.i64.wrap (a : Int) = a := by rw [IntKind.wrap_i64]; omega
  have e2 : x.tmod 256 = x := by rw [Int.tmod_eq_emod_of_nonneg x0]; omega
  have e3 : IntKind.u32.wrap x = x := by rw [IntKind.wrap_u32]; omega
  have e4 : IntKind.u8.wrap x = x := by rw [IntKind.wrap_u8]; omega
  have e5 : x.tdiv 256 = 0 := by rw [Int.tdiv_eq_ediv_of_nonneg x0]; omega
  have e6 : ((a : Int)).toNat = a := by omega
  have l1 : (a : Int) < (bs.length : Int) := by omega
  have l2 : (0 : Int) ≤ (a : Int) := by omega
  generalize bs.getD a 0 = Y at *
  generalize hLL : bs.length = LL at *
  clear h hLL
  go_enter Try.func27, Try.ntmps27
  go_upto_region 6 with (first | (go_at_call 44; refine (dsized1 _).mono ?_; rintro e w1 ⟨rfl, e9⟩; rw [e9]; clear e9) | (go_at_call 45; refine HMY.out.mono ?_; rintro e w1 ⟨rfl, e9⟩; rw [e9]; clear e9) | fail)
  go_rounds 2
  all_goals (try go_wp2)
  go_ret
  exact ⟨rfl, HP.out, HF.out⟩
end Go.Proofs.Ytpgppdkbkkljnaa
