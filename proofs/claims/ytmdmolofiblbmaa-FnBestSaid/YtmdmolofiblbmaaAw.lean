/- An array of 257 numbers, as a value and as a row of cells: laws of the operations that take a whole row at once. -/
import Derived.Test.YtmdmolofiblbmaaCa
import Derived.Deep.WholeRow
namespace Go.Proofs.Ytmdmolofiblbmaa
open Go.RowKit
set_option linter.unusedVariables false

/-- Numbers as cells. -/
def ivs (L : List Int) : List Value := L.map (Value.int .i64)
theorem ivs_len (L : List Int) : (ivs L).length = L.length := by simp [ivs]
theorem ivs_get (L : List Int) (i : Nat) (h : i < L.length) : (ivs L)[i]? = some (.int .i64 (L.getD i 0)) := by simp [ivs, List.getD, h]
theorem ivs_set (L : List Int) (i : Nat) (x : Int) : (ivs L).set i (.int .i64 x) = ivs (L.set i x) := by simp [ivs]
theorem ivs_one (L : List Int) : (ivs L).toArray.all (·.oneCell') = true := by
  rw [Array.all_eq_true_iff_forall_mem]
  intro v hv
  simp [ivs] at hv
  obtain ⟨x, _, rfl⟩ := hv
  rfl

/-- 'var x T', of a type of many cells: its cells as a list that stays shut. -/
theorem wpList_newZ {P : Program} {ops : Array Oper} {rest : List Oper} {o : Oper} {a : Act} {Q : Exit → Act → World → Prop} (w : World) (hgd : o.guard = none) (t : TypeId) (ho : o.op = .alloc t)
    (Z : List Value) (hz : ∀ q, (zeroValue t).run P q = .ok (.agg Z.toArray) q)
    (h : wpList P ops Q rest (a.put o.dst (.pointer (some ⟨w.heap.size, 0, none⟩))) (w.alloc (.cells Z.toArray t))) : wpList P ops Q (o :: rest) a w :=
  wpList_plain hgd fun _ hK => by
    unfold Oper.wp execOp
    simp only [ho, Instr.alloc]
    simp [newVar, newRow, newObj, Sem.run_bind, hz, Value.cells]
    exact hK _ _ h

/-- A zero value of many cells that is built. -/
theorem wpList_build0 {P : Program} {ops : Array Oper} {rest : List Oper} {o : Oper} {a : Act} {Q : Exit → Act → World → Prop} (w : World) (hgd : o.guard = none) (t : TypeId) (ho : o.op = .build t #[])
    (Z : List Value) (hz : ∀ q, (Instr.build t #[]).run P q = .ok (.agg Z.toArray) q)
    (h : wpList P ops Q rest (a.put o.dst (.agg Z.toArray)) w) : wpList P ops Q (o :: rest) a w :=
  wpList_plain hgd fun _ hK => by
    have e : (#[] : Array (Nat × Operand)).map (fun (i, x) => (i, a.eval x)) = #[] := by simp
    unfold Oper.wp execOp
    simp only [ho]
    rw [e]
    simp only [Sem.run_bind, hz, Result.andThen_ok, Sem.run_pure]
    exact hK _ _ h

/-- A whole row is read. -/
theorem wpList_loadR {P : Program} {ops : Array Oper} {rest : List Oper} {o : Oper} {a : Act} {Q : Exit → Act → World → Prop} (w : World) (hgd : o.guard = none) (t : TypeId) (x : Operand) (ho : o.op = .load t x)
    (b : Nat) (L : List Value) (hb : Blk w b L t) (hx : a.eval x = .pointer (some ⟨b, 0, none⟩)) (n : Nat) (e : TypeId) (hu : P.underlying t = some (.array n e)) (hi : (P.info? t).map (·.size) = some L.length)
    (h : wpList P ops Q rest (a.put o.dst (.agg L.toArray)) w) : wpList P ops Q (o :: rest) a w :=
  wpList_plain hgd fun _ hK => by
    have hr := run_loadVar_row (P := P) w b t t L.toArray (0, 0) _ hb hu rfl (by simpa using hi)
    unfold Oper.wp execOp
    simp only [ho, hx, Instr.loadAt, Instr.sureAddr, Sem.run_bind, Sem.run_pure, Result.andThen_ok, hr]
    exact hK _ _ h

/-- A whole row is written. -/
theorem wpList_storeR {P : Program} {ops : Array Oper} {rest : List Oper} {o : Oper} {a : Act} {Q : Exit → Act → World → Prop} (w : World) (hgd : o.guard = none) (t : TypeId) (x y : Operand) (ho : o.op = .store t x y)
    (b : Nat) (L M : List Value) (hb : Blk w b L t) (hx : a.eval x = .pointer (some ⟨b, 0, none⟩)) (hy : a.eval y = .agg M.toArray) (hlen : L.length = M.length) (hi : (P.info? t).map (·.size) = some M.length)
    (h1 : M.toArray.all (·.oneCell') = true)
    (h : ∀ w', Blk w' b M t → Ef b w w' → wpList P ops Q rest (a.put o.dst undef) w') : wpList P ops Q (o :: rest) a w :=
  wpList_plain hgd fun _ hK => by
    have hr := run_storeVar_row (P := P) w b t t L.toArray M.toArray hb (by simpa using hi) (by simpa using hlen) h1
    unfold Oper.wp execOp
    simp only [ho, hx, hy, Instr.storeAt, Instr.sureAddr, Sem.run_bind, Sem.run_pure, Result.andThen_ok, hr]
    refine hK _ _ (h _ (setRow_heap w b L.toArray M.toArray t (0, 0) hb) ⟨rfl, rfl, rfl, by simp, fun k _ hk => setRow_other w b k _ (fun e => hk (by rw [e]))⟩)

/-- One result that lies in memory. -/
theorem results_one_cell {fn : Func} {p : Tmp} {ty : TypeId} (h : fn.results = #[.cell p ty]) (tmps : Array Value) (P : Program) (w : World) (a : Addr) (v : Value) (ht : tmps.getD p undef = .pointer (some a)) (hl : (loadVar ty a).run P w = .ok v w) :
    (results fn tmps).run P w = .ok v w := by
  have ht' : tmps[p]?.getD undef = .pointer (some a) := by simpa using ht
  simp only [results, h]
  simp [asAddr, ht', hl]

/-! Whether the walk stands at such an operation. -/
section at_op
variable {P : Program} {ops : Array Oper} {rest : List Oper} {a : Act} {w : World} {Q : Exit → Act → World → Prop}
theorem at_load (t : TypeId) {d x ty p f} (h : wpList P ops Q ({ dst := d, op := .load t x, type := ty, pos := p, after := f, guard := none } :: rest) a w) : wpList P ops Q ({ dst := d, op := .load t x, type := ty, pos := p, after := f, guard := none } :: rest) a w := h
theorem at_store (t : TypeId) {d x y ty p f} (h : wpList P ops Q ({ dst := d, op := .store t x y, type := ty, pos := p, after := f, guard := none } :: rest) a w) : wpList P ops Q ({ dst := d, op := .store t x y, type := ty, pos := p, after := f, guard := none } :: rest) a w := h
theorem at_alloc (t : TypeId) {d ty p f} (h : wpList P ops Q ({ dst := d, op := .alloc t, type := ty, pos := p, after := f, guard := none } :: rest) a w) : wpList P ops Q ({ dst := d, op := .alloc t, type := ty, pos := p, after := f, guard := none } :: rest) a w := h
theorem at_build (t : TypeId) {d x ty p f} (h : wpList P ops Q ({ dst := d, op := .build t x, type := ty, pos := p, after := f, guard := none } :: rest) a w) : wpList P ops Q ({ dst := d, op := .build t x, type := ty, pos := p, after := f, guard := none } :: rest) a w := h
end at_op

/-- 257 zeros. -/
def z257 : List Int := List.replicate 257 0
theorem z257_len : z257.length = 257 := List.length_replicate
theorem zero64 : ∀ q, (zeroValue 64).run Try.prog q = .ok (.agg (ivs z257).toArray) q := (zero_of_info (P := Try.prog) (t := 64) (n := 257) (by kernel_rfl)).1
theorem size64 : (Try.prog.info? 64).map (·.size) = some 257 := (zero_of_info (P := Try.prog) (t := 64) (v := .agg (ivs z257).toArray) (by kernel_rfl)).2
theorem size64L {L : List Int} (h : L.length = 257) : (Try.prog.info? 64).map (·.size) = some (ivs L).length := by rw [ivs_len, h]; exact size64
theorem build64 : ∀ q, (Instr.build 64 #[]).run Try.prog q = .ok (.agg (ivs z257).toArray) q := fun q => by kernel_rfl
end Go.Proofs.Ytmdmolofiblbmaa
