/- The document's stack as it lies in memory; contracts of its At, lay and Values. -/
import Derived.Test.YthhkennomnmjkaaT10c
import Derived.Test.YthhkennomnmjkaaH7r
namespace Go.Proofs.Ythhkennomnmjkaa
open Go.RowKit
set_option maxHeartbeats 1000000
set_option maxRecDepth 100000
set_option linter.unusedVariables false

/-- the document's stack in memory of the call's own -/
structure DAt (B : Nat) (w : World) (m : Nat) (v : Value) (s : Ks) : Prop where
  base : B ≤ m
  box : w.heap[m]? = some (.cells #[v, .int .i64 s.size, .int .i64 s.fr, .bool s.on] 37 (0, 0))
  row : w.ownsRow B 5 1 v s.bs.length (bytesV s.bs)
theorem DAt.lt {B : Nat} {w : World} {m : Nat} {v : Value} {s : Ks} (h : DAt B w m v s) : m < w.heap.size := (Array.getElem?_eq_some_iff.1 h.box).1
theorem DAt.ne {B : Nat} {w : World} {m : Nat} {v : Value} {s : Ks} (h : DAt B w m v s) : v.ownBlock ≠ some m := own_ne h.row h.box (by decide)
theorem DAt.later {B : Nat} {w w' : World} {m : Nat} {v : Value} {s : Ks} (h : DAt B w m v s) (hb : Below w.heap.size w w') : DAt B w' m v s :=
  ⟨h.base, (hb.block m h.lt).trans h.box, own_later h.row hb⟩
theorem DAt.cells {B : Nat} {w : World} {m : Nat} {v : Value} {s : Ks} (h : DAt B w m v s) : w.cell? ⟨m, 0, none⟩ = some v ∧ w.cell? ⟨m, 1, none⟩ = some (.int .i64 s.size) ∧ w.cell? ⟨m, 2, none⟩ = some (.int .i64 s.fr) ∧ w.cell? ⟨m, 3, none⟩ = some (.bool s.on) ∧ (∀ j, w.frozen? ⟨m, j, none⟩ = false) := by
  have hh := h.box
  refine ⟨by simp [World.cell?, hh], by simp [World.cell?, hh], by simp [World.cell?, hh], by simp [World.cell?, hh], fun j => by simp [World.frozen?, hh]⟩
theorem DAt.low {B : Nat} {w : World} {m : Nat} {v : Value} {s : Ks} (h : DAt B w m v s) : ∀ k, TK m v k → B ≤ k ∧ k < w.heap.size := by
  rintro k (rfl | e)
  · exact ⟨h.base, h.lt⟩
  · exact h.row.lt k e
theorem dset {w : World} {m : Nat} {cs : Array Value} (hh : w.heap[m]? = some (.cells cs 37 (0, 0))) (i : Nat) (u : Value) : (w.setCell ⟨m, i, none⟩ u).heap[m]? = some (.cells (cs.setIfInBounds i u) 37 (0, 0)) := by
  have := setCell_eq_setRow w m i cs 37 (0, 0) u hh
  rw [this]
  exact setRow_heap w m cs _ _ _ hh
theorem DAt.grown {B : Nat} {w w' : World} {m : Nat} {v v' : Value} {s : Ks} {zs : List Int} (h : DAt B w m v s) (f : Fm w w' (fun k => v.ownBlock = some k) (fun k => v'.ownBlock = some k)) (ho : w'.ownsRow B 5 1 v' zs.length (bytesV zs)) :
    DAt B (w'.setCell ⟨m, 0, none⟩ v') m v' { s with bs := zs } ∧ Fm w (w'.setCell ⟨m, 0, none⟩ v') (TK m v) (TK m v') := by
  have hb : w'.heap[m]? = some (.cells #[v, .int .i64 s.size, .int .i64 s.fr, .bool s.on] 37 (0, 0)) := by
    rw [f.block m h.lt h.ne]; exact h.box
  refine ⟨⟨h.base, ?_, ownsRow_setCell_other ho (by simpa using own_ne ho hb (by decide)) _⟩, ?_⟩
  · rw [dset hb]; simp
  · refine (f.to (U := TK m v) (U' := TK m v') (fun k e => .inr e) (fun k e => ?_)).set m 0 _ (.inl rfl)
    rcases e with e | e
    · exact .inl (.inl e)
    · exact .inr e
/-- the row is one that came anew -/
theorem DAt.fresh {B : Nat} {w w' : World} {m : Nat} {v v' : Value} {s : Ks} {zs : List Int} (h : DAt B w m v s) (hB : B ≤ w.heap.size) (hb : Below w.heap.size w w') (ho : w'.ownsRow w.heap.size 5 1 v' zs.length (bytesV zs)) :
    DAt B (w'.setCell ⟨m, 0, none⟩ v') m v' { s with bs := zs } ∧ Fm w (w'.setCell ⟨m, 0, none⟩ v') (TK m v) (TK m v') :=
  h.grown ⟨hb.os, hb.tape, hb.output, hb.size, fun k hk _ => hb.block k hk, fun k hk => .inr (ho.lt k hk).1⟩ (own_base ho hB)
theorem DAt.set2 {B : Nat} {w : World} {m : Nat} {v : Value} {s : Ks} (h : DAt B w m v s) (x : Nat) : DAt B (w.setCell ⟨m, 2, none⟩ (.int .i64 x)) m v { s with fr := x } ∧ Fm w (w.setCell ⟨m, 2, none⟩ (.int .i64 x)) (TK m v) (TK m v) :=
  ⟨⟨h.base, by rw [dset h.box]; simp, ownsRow_setCell_other h.row (by simpa using h.ne) _⟩, (Fm.same (Below.refl _ _)).set m 2 _ (.inl rfl)⟩
theorem DAt.set3 {B : Nat} {w : World} {m : Nat} {v : Value} {s : Ks} (h : DAt B w m v s) (b : Bool) : DAt B (w.setCell ⟨m, 3, none⟩ (.bool b)) m v { s with on := b } ∧ Fm w (w.setCell ⟨m, 3, none⟩ (.bool b)) (TK m v) (TK m v) :=
  ⟨⟨h.base, by rw [dset h.box]; simp, ownsRow_setCell_other h.row (by simpa using h.ne) _⟩, (Fm.same (Below.refl _ _)).set m 3 _ (.inl rfl)⟩
/-- what the walks ask of its cells -/
structure DC (w : World) (m : Nat) (a : Option Addr) (c : Nat) (s : Ks) : Prop where
  c0 : w.cell? ⟨m, 0, none⟩ = some (.slice a s.bs.length c)
  c1 : w.cell? ⟨m, 1, none⟩ = some (.int .i64 s.size)
  c2 : w.cell? ⟨m, 2, none⟩ = some (.int .i64 s.fr)
  c3 : w.cell? ⟨m, 3, none⟩ = some (.bool s.on)
  rd : Reads w a s.bs.length c s.bs
theorem DAt.dc {B : Nat} {w : World} {m : Nat} {v : Value} {s : Ks} (h : DAt B w m v s) : ∃ a c, v = .slice a s.bs.length c ∧ DC w m a c s := by
  obtain ⟨a, c, rfl⟩ := own_slice8 h.row
  obtain ⟨h0, h1, h2, h3, _⟩ := h.cells
  exact ⟨a, c, rfl, h0, h1, h2, h3, own_read8 (v := .slice a s.bs.length c) h.row⟩
theorem DC.later {w w' : World} {m : Nat} {a : Option Addr} {c : Nat} {s : Ks} (h : DC w m a c s) (hb : Below w.heap.size w w') : DC w' m a c s :=
  ⟨cellLater hb h.c0, cellLater hb h.c1, cellLater hb h.c2, cellLater hb h.c3, h.rd.later hb⟩
/-- the number at a place -/
theorem dat_any (m p : Nat) (a : Option Addr) (n c : Nat) (zs : List Int) (w : World) (h0 : w.cell? ⟨m, 0, none⟩ = some (.slice a n c)) (h : Reads w a n c zs) (hb : OkB zs) (hp : p + 4 ≤ n) (hn : n ≤ 1000000) :
    Calls Try.prog 67 #[.pointer (some ⟨m, 0, none⟩), .int .i64 p] w fun e w' => e = .returned (.int .i64 (nu zs p)) ∧ w' = w := by
  have hc : n ≤ c := h.2.1
  obtain ⟨g, o, rfl, hB⟩ := h.bs (by omega)
  have HB : Hid (Calls Try.prog 71 #[.slice (some ⟨g, o, none⟩) n c, .int .i64 p, .int .i64 4] w fun e w' => e = .returned (.tuple #[.int .u32 (nu zs p), .int .i64 0]) ∧ w' = w) := by
    refine (rbe_any g o n c zs (p : Int) 4 w (.inr (.inr rfl)) (by omega) (by omega) (by omega) hc hB.2 hb).mono ?_
    rintro e w' ⟨h1, _, h3⟩
    refine ⟨?_, h3⟩
    rw [h1 (by omega), Int.toNat_natCast, nu_of hb]
  have hlt := nu_lt hb p
  clear h hb hB
  generalize nu zs p = X at *
  have hw : IntKind.i64.wrap (X : Int) = (X : Int) := by rw [IntKind.wrap_i64]; omega
  go_enter Try.func67, Try.ntmps67
  go_wp2_with (go_at_call 71; refine HB.out.mono ?_; rintro e w1 ⟨rfl, rfl⟩)
  go_ret
  exact ⟨rfl, rfl⟩
/-- append of a row that is read, nil or empty or not, over a row that is owned -/
theorem app_reads (base g n c m c0 : Nat) (sa : Option Addr) (zs ds : List Int) (w : World) (hown : w.ownsRow base 5 1 (.slice (some ⟨g, 0, none⟩) n c) n (bytesV zs)) (hr : Reads w sa m c0 ds) (h63 : n + m ≤ 4294967296) (hbase : base ≤ w.heap.size) :
    ∃ g' c' w', (∀ ty, (Builtin.append_ #[24, 24] ty #[.slice (some ⟨g, 0, none⟩) n c, .slice sa m c0]).run Try.prog w = .ok (.slice (some ⟨g', 0, none⟩) (n + m) c') w') ∧ w'.ownsRow base 5 1 (.slice (some ⟨g', 0, none⟩) (n + m) c') (n + m) (bytesV (zs ++ ds)) ∧ Fm w w' (fun k => (Value.slice (some ⟨g, 0, none⟩) n c).ownBlock = some k) (fun k => (Value.slice (some ⟨g', 0, none⟩) (n + m) c').ownBlock = some k) := by
  obtain ⟨i0, hi, hz0, hz1, hz2⟩ := info_parts info8
  have hl := hr.1
  by_cases hm : m = 0
  · subst hm
    obtain rfl : ds = [] := List.eq_nil_of_length_eq_zero hl
    cases sa with
    | none =>
      have h0 : c0 = 0 := by
        rcases hr.2.2 with ⟨_, _, h⟩ | ⟨x, h, _⟩
        · exact h
        · cases h
      subst h0
      exact ⟨g, c, w, fun ty => run_append_owned_none (P := Try.prog) (w := w) base 24 ty 5 i0 1 Try.underlying24 hi _ n _ hown, by simpa using hown, Fm.same (Below.refl _ _)⟩
    | some x =>
      obtain ⟨cur, h1, h2, h3, h4, h5, h6, h7⟩ := own8_cur hown
      refine ⟨g, c, _, fun ty => run_append_room (P := Try.prog) w 24 ty 5 i0 Try.underlying24 hi g n c cur.toArray h2 x 0 c0 [] (by simp) (by simp) (by simp) (by omega) (by simp [hz1]; omega), ?_, ?_⟩
      · have hs := setRow_heap w g cur.toArray (cur.toArray.toList.take (n * i0.size) ++ [] ++ cur.toArray.toList.drop (n * i0.size + ([] : List Value).length)).toArray 5 (0, 0) h2
        refine own8_of (zs := zs ++ []) h1 hs (by omega) h4 (by simp [hz1]; omega) ?_ (by simp [h7])
        simp only [List.append_nil, Nat.add_zero, List.length_nil]
        simpa using h6
      · exact ⟨rfl, rfl, rfl, by simp [World.setRow], fun k _ hk => setRow_other w g k _ (fun e => hk (by rw [e]; rfl)), fun k hk => .inl hk⟩
  · obtain ⟨x, rfl⟩ : ∃ x, sa = some x := by
      rcases hr.2.2 with ⟨_, h, _⟩ | ⟨x, h, _⟩
      · omega
      · exact ⟨x, h⟩
    have key : ∀ ty, ∃ v' w', (Builtin.append_ #[24, 24] ty #[.slice (some ⟨g, 0, none⟩) n c, .slice (some x) m c0]).run Try.prog w = .ok v' w' ∧ w'.ownsRow base 5 1 v' (n + m) (bytesV zs ++ bytesV ds) ∧ w.grownBy w' (Value.slice (some ⟨g, 0, none⟩) n c).ownBlock ∧ (∀ k, v'.ownBlock = some k → (Value.slice (some ⟨g, 0, none⟩) n c).ownBlock = some k ∨ w.heap.size ≤ k) := fun ty => run_append_at (P := Try.prog) (w := w) base 24 ty 5 i0 (.int .u8 0) 1 1 Try.underlying24 hi hz0 hz1 hz2 rfl (by decide) _ n (bytesV zs) hown x m c0 (bytesV ds) (by simp [bytesV, hl]) hr.news (bytesV_one ds) (by unfold maxLen; omega) (by omega) hbase (by omega)
    obtain ⟨v', w', hr1, h2, h3, h4⟩ := key 24
    rw [bytesV_append] at h2
    obtain ⟨g', c', rfl, _, _⟩ := owned_shape h2 (by omega)
    exact ⟨g', c', w', fun ty => hr1, h2, fm_grown h3 h4⟩
theorem wpList_appR {w : World} {ops : Array Oper} {rest : List Oper} {o : Oper} {a : Act} {Q : Exit → Act → World → Prop} (hgd : o.guard = none) (s x : Operand)
    (ho : o.op = .call { callee := .builtin .append, args := #[s, x], argTypes := #[24, 24] })
    (base g n c m c0 : Nat) (sa : Option Addr) (zs ds : List Int) (hs : a.eval s = .slice (some ⟨g, 0, none⟩) n c) (hx : a.eval x = .slice sa m c0) (hown : w.ownsRow base 5 1 (.slice (some ⟨g, 0, none⟩) n c) n (bytesV zs)) (hr : Reads w sa m c0 ds) (h63 : n + m ≤ 4294967296) (hbase : base ≤ w.heap.size)
    (h : ∀ g' c' w', w'.ownsRow base 5 1 (.slice (some ⟨g', 0, none⟩) (n + m) c') (n + m) (bytesV (zs ++ ds)) → Hid (Fm w w' (fun k => (Value.slice (some ⟨g, 0, none⟩) n c).ownBlock = some k) (fun k => (Value.slice (some ⟨g', 0, none⟩) (n + m) c').ownBlock = some k)) → wpList Try.prog ops Q rest (a.put o.dst (.slice (some ⟨g', 0, none⟩) (n + m) c')) w') : wpList Try.prog ops Q (o :: rest) a w := by
  refine wpList_plain hgd fun K hK => ?_
  obtain ⟨g', c', w', hrun, h1, h2⟩ := app_reads base g n c m c0 sa zs ds w hown hr h63 hbase
  unfold Oper.wp
  simp [execOp, ho, resolve, invoke, builtin, hs, hx, hrun, Result.andThen]
  exact hK _ _ (h g' c' w' h1 h2)
/-- append([]byte{}, row...): a copy in a block of its own -/
theorem wpList_copyOf {w0 : World} {ops : Array Oper} {rest : List Oper} {o : Oper} {a : Act} {Q : Exit → Act → World → Prop} (hgd : o.guard = none) (s x : Operand)
    (ho : o.op = .call { callee := .builtin .append, args := #[s, x], argTypes := #[24, 24] })
    (m c0 : Nat) (sa : Option Addr) (ds : List Int) (hs : a.eval s = .slice (some ⟨w0.heap.size, 0, none⟩) 0 0) (hx : a.eval x = .slice sa m c0) (hr : Reads w0 sa m c0 ds) (h63 : m ≤ 4294967296)
    (h : ∀ g' c' w', w'.ownsRow w0.heap.size 5 1 (.slice (some ⟨g', 0, none⟩) m c') m (bytesV ds) → Below w0.heap.size w0 w' → wpList Try.prog ops Q rest (a.put o.dst (.slice (some ⟨g', 0, none⟩) m c')) w') : wpList Try.prog ops Q (o :: rest) a (w0.alloc (.cells #[] 5)) := by
  have hb : Below w0.heap.size w0 (w0.alloc (.cells #[] 5)) := (Below.refl _ _).alloc (Nat.le_refl _) _
  have hm := World.ownsRow_made (base := w0.heap.size) (e := 5) (size := 1) w0 #[] 0 (Nat.le_refl _) (Nat.zero_le _) (by simp)
  refine wpList_appR hgd s x ho w0.heap.size w0.heap.size 0 0 m c0 sa [] ds hs hx hm (hr.later hb) (by omega) hb.size ?_
  intro g' c' w' ho' f
  rw [Nat.zero_add, List.nil_append] at ho'
  rw [Nat.zero_add]
  exact h g' c' w' ho' (hb.trans (f.out.below hb.size (fun k e => by simp only [Value.ownBlock, Option.some.injEq] at e; omega)))
/-- numbers on top -/
theorem dlay_any (B m ab ac : Nat) (v : Value) (s : Ks) (xs : List Nat) (w : World) (h : DAt B w m v s) (hB : B ≤ w.heap.size) (hL : s.bs.length + 4 * xs.length ≤ 400000) (hx : ∀ x ∈ xs, x < 4294967296)
    (hc : ∀ i, i < xs.length → w.cell? ⟨ab, i, none⟩ = some (.int .u32 (xs.getD i 0 : Nat))) (hac : xs.length ≤ ac) (aa : Option Addr) (haa : 0 < xs.length → aa = some ⟨ab, 0, none⟩) :
    Calls Try.prog 58 #[.pointer (some ⟨m, 0, none⟩), .slice aa xs.length ac] w fun e w' => e = .returned (.tuple #[]) ∧ ∃ v', DAt B w' m v' { s with bs := s.bs ++ putsL xs } ∧ Fm w w' (TK m v) (TK m v') := by
  obtain ⟨a, c, rfl, dc⟩ := h.dc
  obtain ⟨i0, hi, hz0, hz1, hz2⟩ := info_parts info8
  have HC := hidden hc
  have HX := hidden hx
  have HRD := hidden dc.rd
  have c0 := dc.c0
  have HAA := hidden haa
  have HF : Hid (∀ (w1 : World) (v1 : Value), Below w.heap.size w w1 → w1.ownsRow w.heap.size 5 1 v1 (s.bs ++ putsL xs).length (bytesV (s.bs ++ putsL xs)) → (w1.cell? ⟨m, 0, none⟩ = some (.slice a s.bs.length c) ∧ w1.frozen? ⟨m, 0, none⟩ = false) ∧ DAt B (w1.setCell ⟨m, 0, none⟩ v1) m v1 { s with bs := s.bs ++ putsL xs } ∧ Fm w (w1.setCell ⟨m, 0, none⟩ v1) (TK m (.slice a s.bs.length c)) (TK m v1)) := fun w1 v1 hb ho => by
    obtain ⟨g1, g2⟩ := h.fresh hB hb ho
    obtain ⟨k0, _, _, _, kf⟩ := (h.later hb).cells
    exact ⟨⟨k0, kf 0⟩, g1, g2⟩
  have hcA : (w.alloc (.cells #[] 5)).cell? ⟨m, 0, none⟩ = some (.slice a s.bs.length c) := cellLater ((Below.refl _ _).alloc (Nat.le_refl _) _) c0
  have hl0 : s.bs.length ≤ 400000 := by omega
  clear hc h hx dc haa
  go_enter Try.func58, Try.ntmps58
  go_wp2_with (first | (at_builtin; refine wpList_copyOf (w0 := w) rfl _ _ rfl s.bs.length c a s.bs rfl rfl HRD.out (by omega) ?_; intro g1 c1 w1 ho1 hb1; have HO1 := hidden ho1; have HB1 := hidden hb1; clear ho1 hb1))
  go_loopw [4, 5] (fun v i wr => ∃ (k g2 c2 n2 : Nat), k ≤ xs.length ∧ i = .int .i64 k ∧ v = .slice (some ⟨g2, 0, none⟩) n2 c2 ∧ Hid (n2 = s.bs.length + 4 * k) ∧ n2 ≤ 400000 ∧ Hid (wr.ownsRow w.heap.size 5 1 (.slice (some ⟨g2, 0, none⟩) n2 c2) n2 (bytesV (s.bs ++ putsL (xs.take k)))) ∧ Hid (Below w.heap.size w wr)) (fun _ i _ => xs.length - (intOf i).toNat)
  case atStart => exact ⟨0, g1, c1, s.bs.length, by omega, rfl, rfl, hidden (by omega), hl0, by simpa [putsL] using HO1, HB1⟩
  case round =>
    clear HO1 HB1
    obtain ⟨k, g2, c2, n2, hk, rfl, rfl, HN2, hn2, HO, HB⟩ := hrel
    by_cases hlt : k < xs.length
    · have d1 : (k : Int) < (xs.length : Int) := by omega
      obtain rfl := HAA.out (by omega)
      have hx0 := cellLater HB.out (HC.out k hlt)
      have hxb := HX.out (xs.getD k 0) (by rw [List.getD_eq_getElem?_getD]; simp [hlt])
      have HPS := hidden (putsL_snoc xs k hlt)
      have HBS : Hid (w.heap.size ≤ wr.heap.size) := HB.out.size
      generalize xs.getD k 0 = x at *
      have HP : Hid (Calls Try.prog 68 #[.int .u32 x, .int .i64 4] wr fun e w' => ∃ a4 c4, e = .returned (.slice a4 4 c4) ∧ Hid (Reads w' a4 4 c4 (putL (x : Int) 4)) ∧ Hid (Below wr.heap.size wr w')) := by
        refine (rput_4 (x : Int) wr (by omega) (by omega)).mono ?_
        rintro e w' ⟨v', rfl, ho', hb'⟩
        obtain ⟨a4, c4, rfl⟩ := own_slice8 ho'
        exact ⟨a4, c4, rfl, own_read8 (v := .slice a4 4 c4) ho', hb'⟩
      have HOL : Hid (∀ wx, Below wr.heap.size wr wx → wx.ownsRow w.heap.size 5 1 (.slice (some ⟨g2, 0, none⟩) n2 c2) n2 (bytesV (s.bs ++ putsL (xs.take k)))) := fun wx hb => own_later HO.out hb
      have HN : Hid (∀ (w1 w2 : World) (g3 c3 : Nat), Below wr.heap.size wr w1 → w2.ownsRow w.heap.size 5 1 (.slice (some ⟨g3, 0, none⟩) (n2 + 4) c3) (n2 + 4) (bytesV (s.bs ++ putsL (xs.take k) ++ putL (x : Int) 4)) → Fm w1 w2 (fun j => (Value.slice (some ⟨g2, 0, none⟩) n2 c2).ownBlock = some j) (fun j => (Value.slice (some ⟨g3, 0, none⟩) (n2 + 4) c3).ownBlock = some j) → w2.ownsRow w.heap.size 5 1 (.slice (some ⟨g3, 0, none⟩) (n2 + 4) c3) (n2 + 4) (bytesV (s.bs ++ putsL (xs.take (k + 1)))) ∧ Below w.heap.size w w2) := fun w1 w2 g3 c3 hb ho f => by
        rw [HPS.out, ← List.append_assoc]
        exact ⟨ho, (HB.out.trans (hb.mono HB.out.size)).trans (f.below (Nat.le_trans HB.out.size hb.size) (fun j e => (HO.out.lt j e).1))⟩
      clear HO HB
      go_wp2_with (first | (go_at_call 68; refine HP.out.mono ?_; rintro e w1 ⟨a4, c4, rfl, hr4, hb4⟩) | (at_builtin; refine wpList_appR rfl _ _ rfl w.heap.size g2 n2 c2 4 c4 a4 _ _ rfl rfl (HOL.out _ hb4.out) hr4.out (by omega) (Nat.le_trans HBS.out hb4.out.size) ?_; intro g3 c3 w3 ho3 f3; obtain ⟨p1, p2⟩ := HN.out _ _ _ _ hb4.out ho3 f3.out; have P1 := hidden p1; have P2 := hidden p2; clear p1 p2 ho3 f3))
      go_roundw
      case rel => exact ⟨k + 1, g3, c3, n2 + 4, by omega, int_eq (by omega), rfl, by have := HN2.out; show n2 + 4 = _; omega, by have := HN2.out; omega, P1, P2⟩
      case measure => simp [intOf]; omega
    · obtain rfl : k = xs.length := by omega
      have d1 : ¬ (xs.length : Int) < (xs.length : Int) := by omega
      rw [List.take_length] at HO
      have hlen : (s.bs ++ putsL xs).length = n2 := by rw [List.length_append, putsL_len, HN2.out]
      obtain ⟨⟨q0, qf⟩, q1, q2⟩ := HF.out wr (.slice (some ⟨g2, 0, none⟩) n2 c2) HB.out (by rw [hlen]; exact HO.out)
      have Q := hidden (And.intro q1 q2)
      clear q1 q2 hlen
      go_wp2
      refine bodyPost_end (v := .tuple #[]) (by simp [results, Try.results58, go_sem]) rfl ⟨rfl, _, Q.out⟩
end Go.Proofs.Ythhkennomnmjkaa
