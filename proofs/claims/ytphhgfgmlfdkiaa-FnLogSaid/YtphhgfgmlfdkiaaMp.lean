/- Late writes in a map: what a map of writes is, and what it is behind a store, a look-up, a delete, a clear. No statement is proved here. -/
import Derived.Test.YtphhgfgmlfdkiaaBs
import Derived.Maps.OwnSet
namespace Go.Proofs.Ytphhgfgmlfdkiaa
open Go.RowKit Go.Maps
open Go.ChangeMaps Go.MapKept
set_option linter.unusedVariables false

/-- How a write reads as an element of a map. -/
def dat (x : Int × ByteArray) : DataW Unit := .agg [.lit (.int .i64 x.1), .lit (.string x.2.data.toList)]
def wrElem : Value → Option (DataW Unit × List MemPlace)
  | .agg cs => match cs.toList with
    | [.int .i64 a, .string s] => some (dat (a, s), [])
    | _ => none
  | _ => none
theorem wrElem_mk (a : Int) (s : ByteArray) : wrElem (.agg #[.int .i64 a, .string s]) = some (dat (a, s), []) := rfl
theorem wrElem_inv {v : Value} {z : DataW Unit × List MemPlace} (h : wrElem v = some z) : ∃ a s, v = .agg #[.int .i64 a, .string s] ∧ z = (dat (a, s), []) := by
  unfold wrElem at h
  split at h
  · rename_i cs
    split at h
    · rename_i a s e
      cases h
      refine ⟨a, s, ?_, rfl⟩
      obtain ⟨l⟩ := cs
      simp only at e
      rw [e]
    · cases h
  · cases h
theorem dat_inj {x y : Int × ByteArray} (h : dat x = dat y) : x = y := by
  obtain ⟨a, s⟩ := x
  obtain ⟨b, t⟩ := y
  unfold dat at h
  simp at h
  obtain ⟨rfl, h2⟩ := h
  obtain ⟨⟨l⟩⟩ := s
  obtain ⟨⟨m⟩⟩ := t
  simp at h2
  rw [h2]

theorem law3 : Keyed Try.prog 3 := int_keyed Try.underlying3
theorem zero43 (w : World) : (zeroValue 69).run Try.prog w = .ok (.agg #[.int .i64 0, .string ByteArray.empty]) w := by kernel_rfl

/-- Block b is a map of at most n writes: at the key i the write f i. -/
def MapW (w : World) (b n : Nat) (f : Int → Option (Int × ByteArray)) : Prop :=
  ∃ D, w.ownsMap Try.prog 3 wrElem b n D ∧ ∀ i, Maps.has D (.int .i64 i) = (f i).isSome ∧ ∀ x, f i = some x → ∀ z, D.atKey (.int .i64 i) z = dat x
def updF (f : Int → Option (Int × ByteArray)) (i : Int) (x : Int × ByteArray) : Int → Option (Int × ByteArray) := fun j => if i = j then some x else f j
def delF (f : Int → Option (Int × ByteArray)) (i : Int) : Int → Option (Int × ByteArray) := fun j => if i = j then none else f j

variable {w w' : World} {b n : Nat} {f : Int → Option (Int × ByteArray)}

theorem MapW.made (w : World) : MapW (w.alloc (.map #[] 0)) w.heap.size 0 (fun _ => none) :=
  ⟨.map [], World.ownsMap_made w Try.prog 3 wrElem, fun i => ⟨rfl, fun x h => by cases h⟩⟩
theorem MapW.lt (h : MapW w b n f) : b < w.heap.size := by obtain ⟨D, h, _⟩ := h; exact h.lt
theorem MapW.kept {row : Option Nat} (h : MapW w b n f) (hg : w.grownBy w' row) (hne : some b ≠ row) : MapW w' b n f := by obtain ⟨D, h, r⟩ := h; exact ⟨D, h.kept hg hne, r⟩
theorem MapW.below (h : MapW w b n f) (hb : Below w.heap.size w w') : MapW w' b n f := h.kept (row := none) ⟨hb.os, hb.tape, hb.output, hb.size, fun k hk _ => hb.block k hk⟩ (by simp)
theorem MapW.alloc (h : MapW w b n f) (o : Obj) : MapW (w.alloc o) b n f := by obtain ⟨D, h, r⟩ := h; exact ⟨D, h.alloc o, r⟩
theorem MapW.setCell (h : MapW w b n f) {a : Addr} (ha : b ≠ a.block) (u : Value) : MapW (w.setCell a u) b n f := by obtain ⟨D, h, r⟩ := h; exact ⟨D, h.setCell ha u, r⟩
theorem MapW.mono (h : MapW w b n f) {n' : Nat} (hn : n ≤ n') : MapW w b n' f := by obtain ⟨D, h, r⟩ := h; exact ⟨D, h.mono hn, r⟩

theorem MapW.store (h : MapW w b n f) (hn : n < 1000000000) (i : Int) (x : Int × ByteArray) (hi : (Lit.int .i64 i).wf = true) :
    ∃ w', (Instr.mapUpdate 76 (.map (some b)) (.int .i64 i) (.agg #[.int .i64 x.1, .string x.2])).run Try.prog w = .ok () w' ∧ MapW w' b (n + 1) (updF f i x) ∧ w.mapTurned w' b := by
  obtain ⟨D, h, r⟩ := h
  obtain ⟨w', hrun, ho, ht⟩ := h.store (e := 69) law3 Try.underlying76 (by unfold maxLen; omega) (keyOf_int_mk Try.underlying3 hi) (wrElem_mk x.1 x.2)
  refine ⟨w', hrun, ⟨_, ho, fun j => ?_⟩, ht⟩
  unfold updF
  by_cases e : i = j
  · subst e
    rw [if_pos rfl]
    refine ⟨has_put_same (k := .int .i64 i) h.isMap trivial _, fun y hy z => ?_⟩
    cases hy
    exact atKey_put_same (k := .int .i64 i) h.isMap trivial _ z
  · rw [if_neg e]
    have hne : (Lit.int .i64 j) ≠ .int .i64 i := fun he => e (by cases he; rfl)
    rw [has_put_other hne]
    refine ⟨(r j).1, fun y hy z => ?_⟩
    rw [atKey_put_other hne]
    exact (r j).2 y hy z
/-- What a look-up hands over: the write, or the zero value. -/
def gtF (f : Int → Option (Int × ByteArray)) (i : Int) : Int × ByteArray := (f i).getD (0, ByteArray.empty)
theorem MapW.look (h : MapW w b n f) (i : Int) (hi : (Lit.int .i64 i).wf = true) :
    (Instr.lookup 76 (.map (some b)) (.int .i64 i) true).run Try.prog w = .ok (.tuple #[.agg #[.int .i64 (gtF f i).1, .string (gtF f i).2], .bool (f i).isSome]) w := by
  obtain ⟨D, h, r⟩ := h
  obtain ⟨v, ps, hrun, hv⟩ := h.look_ok (e := 69) law3 Try.underlying76 (zero43 w) (wrElem_mk 0 ByteArray.empty) (keyOf_int_mk Try.underlying3 hi)
  rw [hrun, (r i).1]
  obtain ⟨a, s, rfl, hz⟩ := wrElem_inv hv
  simp only [Prod.mk.injEq] at hz
  have : gtF f i = (a, s) := by
    unfold gtF
    cases hf : f i with
    | none =>
      have h0 : Maps.has D (.int .i64 i) = false := by rw [(r i).1, hf]; rfl
      rw [atKey_of_not_has h0] at hz
      exact dat_inj hz.1
    | some y =>
      rw [(r i).2 y hf] at hz
      exact dat_inj hz.1
  rw [this]
theorem MapW.drop (h : MapW w b n f) (i : Int) (hi : (Lit.int .i64 i).wf = true) (ty : TypeId) :
    ∃ w', (Builtin.delete_ #[76, 3] ty #[.map (some b), .int .i64 i]).run Try.prog w = .ok (.tuple #[]) w' ∧ MapW w' b n (delF f i) ∧ w.mapTurned w' b := by
  obtain ⟨D, h, r⟩ := h
  obtain ⟨w', hrun, ho, ht⟩ := h.drop (e := 69) law3 Try.underlying76 (keyOf_int_mk Try.underlying3 hi) ty
  refine ⟨w', hrun, ⟨_, ho, fun j => ?_⟩, ht⟩
  unfold delF
  by_cases e : i = j
  · subst e
    rw [if_pos rfl]
    exact ⟨has_del_same, fun y hy z => by cases hy⟩
  · rw [if_neg e]
    have hne : (Lit.int .i64 j) ≠ .int .i64 i := fun he => e (by cases he; rfl)
    rw [has_del_other hne]
    refine ⟨(r j).1, fun y hy z => ?_⟩
    rw [atKey_del_other hne]
    exact (r j).2 y hy z
theorem MapW.wipe (h : MapW w b n f) (ty : TypeId) :
    ∃ w', (Builtin.clear_ #[76] ty #[.map (some b)]).run Try.prog w = .ok (.tuple #[]) w' ∧ MapW w' b n (fun _ => none) ∧ w.mapTurned w' b := by
  obtain ⟨D, ⟨es, clock, hb, F, hs, hD⟩, r⟩ := h
  refine ⟨setBlock w b (.map #[] clock), ?_, ⟨.map [], ⟨#[], clock, heap_setBlock_same hb _, ⟨by simp, stamped_empty clock, by simp⟩, by simp, rfl⟩, fun i => ⟨rfl, fun x h => by cases h⟩⟩, ⟨es, clock, #[], clock, hb, rfl⟩⟩
  simp [Builtin.clear_, run_underlying Try.underlying76, MapKept.run_getObj_map hb, MapKept.run_setObj_map _ hb, Result.andThen]
  rfl

variable {ops : Array Oper} {rest : List Oper} {o : Oper} {a : Act} {Q : Exit → Act → World → Prop}
theorem wpList_storeW (w : World) (hg : o.guard = none) (m x v : Operand) (hop : o.op = Op.mapUpdate 76 m x v) (b n : Nat) (f : Int → Option (Int × ByteArray)) (hm : a.eval m = .map (some b)) (hown : MapW w b n f) (hn : n < 1000000000) (i : Int) (y : Int × ByteArray)
    (hx : a.eval x = .int .i64 i) (hv : a.eval v = .agg #[.int .i64 y.1, .string y.2]) (hi : (Lit.int .i64 i).wf = true)
    (hK : ∀ w', MapW w' b (n + 1) (updF f i y) → w.mapTurned w' b → wpList Try.prog ops Q rest (a.put o.dst undef) w') : wpList Try.prog ops Q (o :: rest) a w := by
  refine wpList_plain hg fun K' hK' => ?_
  obtain ⟨w', hrun, r1, r2⟩ := hown.store hn i y hi
  unfold Oper.wp
  simp [execOp, hop, hm, hx, hv, hrun, Result.andThen]
  exact hK' _ _ (hK w' r1 r2)
theorem wpList_lookW (w : World) (hg : o.guard = none) (m x : Operand) (hop : o.op = Op.lookup 76 m x true) (b n : Nat) (f : Int → Option (Int × ByteArray)) (hm : a.eval m = .map (some b)) (hown : MapW w b n f) (i : Int)
    (hx : a.eval x = .int .i64 i) (hi : (Lit.int .i64 i).wf = true) (c : Int) (s : ByteArray) (ok : Bool) (h1 : gtF f i = (c, s)) (h2 : (f i).isSome = ok)
    (hK : wpList Try.prog ops Q rest (a.put o.dst (.tuple #[.agg #[.int .i64 c, .string s], .bool ok])) w) : wpList Try.prog ops Q (o :: rest) a w := by
  refine wpList_plain hg fun K' hK' => ?_
  have hrun := hown.look i hi
  rw [h1, h2] at hrun
  unfold Oper.wp
  simp [execOp, hop, hm, hx, hrun, Result.andThen]
  exact hK' _ _ hK
theorem wpList_dropW (w : World) (hg : o.guard = none) (m x : Operand) (hop : o.op = Op.call { callee := Callee.builtin Builtin.delete, args := #[m, x], argTypes := #[76, 3] }) (b n : Nat) (f : Int → Option (Int × ByteArray)) (hm : a.eval m = .map (some b)) (hown : MapW w b n f) (i : Int)
    (hx : a.eval x = .int .i64 i) (hi : (Lit.int .i64 i).wf = true)
    (hK : ∀ w', MapW w' b n (delF f i) → w.mapTurned w' b → wpList Try.prog ops Q rest (a.put o.dst (.tuple #[])) w') : wpList Try.prog ops Q (o :: rest) a w := by
  refine wpList_plain hg fun K' hK' => ?_
  obtain ⟨w', hrun, r1, r2⟩ := hown.drop i hi o.type
  unfold Oper.wp
  simp [execOp, hop, resolve, invoke, builtin, hm, hx, hrun, Result.andThen]
  exact hK' _ _ (hK w' r1 r2)
theorem wpList_wipeW (w : World) (hg : o.guard = none) (m : Operand) (hop : o.op = Op.call { callee := Callee.builtin Builtin.clear, args := #[m], argTypes := #[76] }) (b n : Nat) (f : Int → Option (Int × ByteArray)) (hm : a.eval m = .map (some b)) (hown : MapW w b n f)
    (hK : ∀ w', MapW w' b n (fun _ => none) → w.mapTurned w' b → wpList Try.prog ops Q rest (a.put o.dst (.tuple #[])) w') : wpList Try.prog ops Q (o :: rest) a w := by
  refine wpList_plain hg fun K' hK' => ?_
  obtain ⟨w', hrun, r1, r2⟩ := hown.wipe o.type
  unfold Oper.wp
  simp [execOp, hop, resolve, invoke, builtin, hm, hrun, Result.andThen]
  exact hK' _ _ (hK w' r1 r2)
end Go.Proofs.Ytphhgfgmlfdkiaa
