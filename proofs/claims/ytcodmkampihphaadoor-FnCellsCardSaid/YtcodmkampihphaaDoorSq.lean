/- Squares of 64 numbers, as values and as rows of cells: laws of the operations that take a whole row at once. -/
import Derived.Test.YtcodmkampihphaaDoorZig
import Derived.Test.YtcodmkampihphaaDoorBlk
import Derived.Deep.WholeRow
import Derived.Deep.RegionHeld3
namespace Go.Proofs.YtcodmkampihphaaDoor
open Go.RowKit
set_option linter.unusedVariables false

/-- Numbers as cells. -/
def ivs (L : List Int) : List Value := L.map (Value.int .i64)
theorem ivs_len (L : List Int) : (ivs L).length = L.length := by simp [ivs]
theorem ivs_get (L : List Int) (i : Nat) (h : i < L.length) : (ivs L)[i]? = some (.int .i64 (L.getD i 0)) := by simp [ivs, List.getD, h]
theorem ivs_set (L : List Int) (i : Nat) (x : Int) : (ivs L).set i (.int .i64 x) = ivs (L.set i x) := by simp [ivs]
theorem ivs_one (L : List Int) : (ivs L).toArray.all (·.oneCell') = true := by
  rw [Array.all_eq_true_iff_forall_mem]
  intro v hv
  simp [ivs] at hv
  obtain ⟨x, _, rfl⟩ := hv
  rfl

/-- A row of cells, by its block. -/
def Blk (w : World) (b : Nat) (l : List Value) (t : TypeId) : Prop := w.heap[b]? = some (.cells l.toArray t (0, 0))
theorem Blk.lt {w : World} {b : Nat} {l : List Value} {t : TypeId} (h : Blk w b l t) : b < w.heap.size := (Array.getElem?_eq_some_iff.1 h).1
theorem Blk.cell {w : World} {b : Nat} {l : List Value} {t : TypeId} (h : Blk w b l t) {i : Nat} {v : Value} (hv : l[i]? = some v) : w.cell? ⟨b, i, none⟩ = some v := by
  rw [cell_of_row w b i _ t (0, 0) h]
  simpa using hv
theorem Blk.free {w : World} {b : Nat} {l : List Value} {t : TypeId} (h : Blk w b l t) (i : Nat) : w.frozen? ⟨b, i, none⟩ = false := frozen_of_row w b i _ t h
theorem Blk.set {w : World} {b : Nat} {l : List Value} {t : TypeId} (h : Blk w b l t) (i : Nat) (v : Value) : Blk (w.setCell ⟨b, i, none⟩ v) b (l.set i v) t := by
  have := heap_setCell_same w b i _ t v h
  unfold Blk
  rw [this]
  simp
theorem Blk.below {w w' : World} {B b : Nat} {l : List Value} {t : TypeId} (h : Blk w b l t) (hb : Below B w w') (hB : b < B) : Blk w' b l t := (hb.block b hB).trans h
theorem Blk.other {w : World} {b : Nat} {l : List Value} {t : TypeId} (h : Blk w b l t) {a : Addr} (ha : b ≠ a.block) (v : Value) : Blk (w.setCell a v) b l t := (heap_setCell_other w a b v ha).trans h
theorem Blk.new (w : World) (l : List Value) (t : TypeId) : Blk (w.alloc (.cells l.toArray t)) w.heap.size l t := heap_alloc_new w _
theorem Blk.newG {w : World} {g : Nat} (hg : w.heap.size = g) (l : List Value) (t : TypeId) : Blk (w.alloc (.cells l.toArray t)) g l t := by subst hg; exact Blk.new w l t
theorem Blk.alloc {w : World} {b : Nat} {l : List Value} {t : TypeId} (h : Blk w b l t) (o : Obj) : Blk (w.alloc o) b l t := h.below ((Below.refl _ _).alloc (Nat.le_refl _) _) h.lt
theorem Blk.drew {w : World} {b : Nat} {l : List Value} {t : TypeId} (h : Blk w b l t) (n : Nat) : Blk (w.drewN n) b l t := h

theorem Blk.otherB {w : World} {b C i : Nat} {l : List Value} {t : TypeId} (h : Blk w b l t) (hne : b ≠ C) (v : Value) : Blk (w.setCell ⟨C, i, none⟩ v) b l t := h.other (a := ⟨C, i, none⟩) hne v
theorem Own.setB {w : World} {base C i : Nat} {e : TypeId} {k : IntKind} {v : Value} {xs : List Int} (h : Own w base e k v xs) (hC : C < base) (u : Value) : Own (w.setCell ⟨C, i, none⟩ u) base e k v xs := h.setCell_below (a := ⟨C, i, none⟩) hC u
theorem belowSet {B C i : Nat} {w w' : World} (h : Below B w w') (hC : B ≤ C) (u : Value) : Below B w (w'.setCell ⟨C, i, none⟩ u) := h.setCell (p := ⟨C, i, none⟩) hC u
/-- Of what was there only block b may have turned. -/
def Ef (b : Nat) (w w' : World) : Prop := w.grownBy w' (some b)
theorem Ef.refl (C : Nat) (w : World) : Ef C w w := World.grownBy.refl w _
theorem Ef.trans {C : Nat} {a b c : World} (h : Ef C a b) (k : Ef C b c) : Ef C a c :=
  ⟨k.os.trans h.os, k.tape.trans h.tape, k.output.trans h.output, Nat.le_trans h.size k.size, fun g hg hne => (k.block g (Nat.lt_of_lt_of_le hg h.size) hne).trans (h.block g hg hne)⟩
theorem Ef.ofBelow {C : Nat} {a w : World} (hb : Below a.heap.size a w) : Ef C a w := ⟨hb.os, hb.tape, hb.output, hb.size, fun k hk _ => hb.block k hk⟩
theorem Ef.set {C : Nat} (w : World) (j : Nat) (u : Value) : Ef C w (w.setCell ⟨C, j, none⟩ u) :=
  ⟨rfl, rfl, rfl, by simp, fun k _ hk => heap_setCell_other w ⟨C, j, none⟩ k u (fun e => hk (by rw [e]))⟩
theorem Ef.drewN {C : Nat} {a w : World} (h : Ef C a w) (n : Nat) : Ef C a (w.drewN n) := ⟨h.os, h.tape, h.output, h.size, h.block⟩
theorem Ef.below {C B : Nat} {w w' : World} (h : Ef C w w') (hC : B ≤ C) (hs : B ≤ w.heap.size) : Below B w w' := ⟨h.os, h.tape, h.output, h.size, fun k hk => h.block k (by omega) (fun e => by have := Option.some.inj e; omega)⟩
theorem Blk.ef {w w' : World} {C b : Nat} {l : List Value} {t : TypeId} (h : Blk w b l t) (he : Ef C w w') (hne : b ≠ C) : Blk w' b l t := (he.block b h.lt (fun e => hne (Option.some.inj e))).trans h

/-- 'var x T', of a type of many cells: its cells as a list that stays shut. -/
theorem wpList_newZ {P : Program} {ops : Array Oper} {rest : List Oper} {o : Oper} {a : Act} {Q : Exit → Act → World → Prop} (w : World) (hgd : o.guard = none) (t : TypeId) (ho : o.op = .alloc t)
    (Z : List Value) (hz : ∀ q, (zeroValue t).run P q = .ok (.agg Z.toArray) q)
    (h : wpList P ops Q rest (a.put o.dst (.pointer (some ⟨w.heap.size, 0, none⟩))) (w.alloc (.cells Z.toArray t))) : wpList P ops Q (o :: rest) a w :=
  wpList_plain hgd fun _ hK => by
    unfold Oper.wp execOp
    simp only [ho, Instr.alloc]
    simp [newVar, newRow, newObj, Sem.run_bind, hz, Value.cells]
    exact hK _ _ h

/-- A value of many cells that is built of one. -/
theorem wpList_buildZ {P : Program} {ops : Array Oper} {rest : List Oper} {o : Oper} {a : Act} {Q : Exit → Act → World → Prop} (w : World) (hgd : o.guard = none) (t : TypeId) (x : Operand) (ho : o.op = .build t #[(0, x)])
    (v : Value) (hx : a.eval x = v) (Z : List Value) (hz : ∀ q, (Instr.build t #[(0, v)]).run P q = .ok (.agg Z.toArray) q)
    (h : wpList P ops Q rest (a.put o.dst (.agg Z.toArray)) w) : wpList P ops Q (o :: rest) a w :=
  wpList_plain hgd fun _ hK => by
    have e : (#[(0, x)] : Array (Nat × Operand)).map (fun (i, x) => (i, a.eval x)) = #[(0, v)] := by simp [hx]
    unfold Oper.wp execOp
    simp only [ho]
    rw [e]
    simp only [Sem.run_bind, hz, Result.andThen_ok, Sem.run_pure]
    exact hK _ _ h

/-- A zero value of many cells that is built. -/
theorem wpList_build0 {P : Program} {ops : Array Oper} {rest : List Oper} {o : Oper} {a : Act} {Q : Exit → Act → World → Prop} (w : World) (hgd : o.guard = none) (t : TypeId) (ho : o.op = .build t #[])
    (Z : List Value) (hz : ∀ q, (Instr.build t #[]).run P q = .ok (.agg Z.toArray) q)
    (h : wpList P ops Q rest (a.put o.dst (.agg Z.toArray)) w) : wpList P ops Q (o :: rest) a w :=
  wpList_plain hgd fun _ hK => by
    have e : (#[] : Array (Nat × Operand)).map (fun (i, x) => (i, a.eval x)) = #[] := by simp
    unfold Oper.wp execOp
    simp only [ho]
    rw [e]
    simp only [Sem.run_bind, hz, Result.andThen_ok, Sem.run_pure]
    exact hK _ _ h

/-- A whole row is read. -/
theorem wpList_loadR {P : Program} {ops : Array Oper} {rest : List Oper} {o : Oper} {a : Act} {Q : Exit → Act → World → Prop} (w : World) (hgd : o.guard = none) (t : TypeId) (x : Operand) (ho : o.op = .load t x)
    (b : Nat) (L : List Value) (hb : Blk w b L t) (hx : a.eval x = .pointer (some ⟨b, 0, none⟩)) (n : Nat) (e : TypeId) (hu : P.underlying t = some (.array n e)) (hi : (P.info? t).map (·.size) = some L.length)
    (h : wpList P ops Q rest (a.put o.dst (.agg L.toArray)) w) : wpList P ops Q (o :: rest) a w :=
  wpList_plain hgd fun _ hK => by
    have hr := run_loadVar_row (P := P) w b t t L.toArray (0, 0) _ hb hu rfl (by simpa using hi)
    unfold Oper.wp execOp
    simp only [ho, hx, Instr.loadAt, Instr.sureAddr, Sem.run_bind, Sem.run_pure, Result.andThen_ok, hr]
    exact hK _ _ h

/-- A whole row is written. -/
theorem wpList_storeR {P : Program} {ops : Array Oper} {rest : List Oper} {o : Oper} {a : Act} {Q : Exit → Act → World → Prop} (w : World) (hgd : o.guard = none) (t : TypeId) (x y : Operand) (ho : o.op = .store t x y)
    (b : Nat) (L M : List Value) (hb : Blk w b L t) (hx : a.eval x = .pointer (some ⟨b, 0, none⟩)) (hy : a.eval y = .agg M.toArray) (hlen : L.length = M.length) (hi : (P.info? t).map (·.size) = some M.length)
    (h1 : M.toArray.all (·.oneCell') = true)
    (h : ∀ w', Blk w' b M t → Ef b w w' → wpList P ops Q rest (a.put o.dst undef) w') : wpList P ops Q (o :: rest) a w :=
  wpList_plain hgd fun _ hK => by
    have hr := run_storeVar_row (P := P) w b t t L.toArray M.toArray hb (by simpa using hi) (by simpa using hlen) h1
    unfold Oper.wp execOp
    simp only [ho, hx, hy, Instr.storeAt, Instr.sureAddr, Sem.run_bind, Sem.run_pure, Result.andThen_ok, hr]
    refine hK _ _ (h _ (setRow_heap w b L.toArray M.toArray t (0, 0) hb) ⟨rfl, rfl, rfl, by simp, fun k _ hk => setRow_other w b k _ (fun e => hk (by rw [e]))⟩)

/-- One result that lies in memory. -/
theorem results_one_cell {fn : Func} {p : Tmp} {ty : TypeId} (h : fn.results = #[.cell p ty]) (tmps : Array Value) (P : Program) (w : World) (a : Addr) (v : Value) (ht : tmps.getD p undef = .pointer (some a)) (hl : (loadVar ty a).run P w = .ok v w) :
    (results fn tmps).run P w = .ok v w := by
  have ht' : tmps[p]?.getD undef = .pointer (some a) := by simpa using ht
  simp only [results, h]
  simp [asAddr, ht', hl]

/-! Whether the walk stands at such an operation. -/
section at_op
variable {P : Program} {ops : Array Oper} {rest : List Oper} {a : Act} {w : World} {Q : Exit → Act → World → Prop}
theorem at_load (t : TypeId) {d x ty p f} (h : wpList P ops Q ({ dst := d, op := .load t x, type := ty, pos := p, after := f, guard := none } :: rest) a w) : wpList P ops Q ({ dst := d, op := .load t x, type := ty, pos := p, after := f, guard := none } :: rest) a w := h
theorem at_store (t : TypeId) {d x y ty p f} (h : wpList P ops Q ({ dst := d, op := .store t x y, type := ty, pos := p, after := f, guard := none } :: rest) a w) : wpList P ops Q ({ dst := d, op := .store t x y, type := ty, pos := p, after := f, guard := none } :: rest) a w := h
theorem at_alloc (t : TypeId) {d ty p f} (h : wpList P ops Q ({ dst := d, op := .alloc t, type := ty, pos := p, after := f, guard := none } :: rest) a w) : wpList P ops Q ({ dst := d, op := .alloc t, type := ty, pos := p, after := f, guard := none } :: rest) a w := h
theorem at_build (t : TypeId) {d x ty p f} (h : wpList P ops Q ({ dst := d, op := .build t x, type := ty, pos := p, after := f, guard := none } :: rest) a w) : wpList P ops Q ({ dst := d, op := .build t x, type := ty, pos := p, after := f, guard := none } :: rest) a w := h
end at_op
end Go.Proofs.YtcodmkampihphaaDoor
