/- A heap of trees: Push. -/
import Derived.Test.YtmdmolofiblbmaaHx
import Derived.ArgAppend
namespace Go.Proofs.Ytmdmolofiblbmaa
open Go.RowKit
set_option linter.unusedVariables false

theorem flE_single (e : TE) : flE [e] = [.int .i64 e.w, .int .i64 e.l, e.y] := by simp [flE]
theorem take_set3 {α : Type} (cur : List α) (n : Nat) (a b c : α) (h : n + 3 ≤ cur.length) : (((cur.set n a).set (n + 1) b).set (n + 2) c).take (n + 3) = cur.take n ++ [a, b, c] := by
  apply List.ext_getElem?
  intro i
  simp only [List.getElem?_take, List.getElem?_set, List.length_set, List.getElem?_append, List.length_take]
  rw [Nat.min_eq_left (by omega)]
  by_cases h1 : i < n
  · simp [h1, show i < n + 3 by omega, show ¬ n + 2 = i by omega, show ¬ n + 1 = i by omega, show ¬ n = i by omega]
  · by_cases h2 : i = n
    · subst h2; simp [show i < cur.length by omega]
    · by_cases h3 : i = n + 1
      · subst h3; simp [show n + 1 < cur.length by omega, show n + 1 - n = 1 by omega]; omega
      · by_cases h4 : i = n + 2
        · subst h4; simp [show n + 2 < cur.length by omega, show n + 2 - n = 2 by omega]; omega
        · have : ¬ i < n + 3 := by omega
          simp [this, h1]; omega
/-- A tree is stored behind the last one, where there is room. -/
theorem RowT.push {w : World} {G c : Nat} {cur : List Value} {E : List TE} (h : RowT w G cur E) (hcl : cur.length = c * 3) (hc : E.length < c) (e : TE) :
    RowT (w.setCells G (0 + E.length * 3) [.int .i64 e.w, .int .i64 e.l, e.y]) G (((cur.set (E.length * 3) (.int .i64 e.w)).set (E.length * 3 + 1) (.int .i64 e.l)).set (E.length * 3 + 2) e.y) (E ++ [e]) := by
  rw [Nat.zero_add]
  refine ⟨((h.1.set _ _).set _ _).set _ _, ?_, by simp; omega⟩
  have h1 := h.2.1
  rw [flE_append, flE_single, ← h1, List.length_append, List.length_singleton]
  have hlen : E.length * 3 + 3 ≤ cur.length := by omega
  have e1 : (E.length + 1) * 3 = E.length * 3 + 3 := by omega
  rw [e1, take_set3 _ _ _ _ _ hlen]
theorem Ef.setCells {C : Nat} : ∀ (vs : List Value) (o : Nat) (w : World), Ef C w (w.setCells C o vs)
  | [], _, w => Ef.refl _ _
  | v :: vs, o, w => (Ef.set w o v).trans (Ef.setCells vs (o + 1) _)
theorem Try.info86 : (Try.prog.info? 86).map (fun i => (i.zero, i.size, i.bytes)) = some (some (.agg #[.int .i64 0, .int .i64 0, .slice none 0 0]), 3, 40) := by kernel_rfl
theorem Blk.allocK {q : World} {b : Nat} {l : List Value} {t : TypeId} (h : Blk q b l t) (o : Obj) : Blk (q.alloc o) b l t := by
  have := h.lt
  unfold Blk World.alloc
  simp only []
  rw [Array.getElem?_push_lt this, ← Array.getElem?_eq_getElem]
  exact h
theorem blk_new (q : World) (l : List Value) (t : TypeId) : Blk (q.alloc (.cells l.toArray t)) q.heap.size l t := heap_alloc_new q _
theorem ta_tree (q : World) (x l : Int) (yo : Option Addr) (yn yc : Nat) : Sem.run Try.prog (Instr.typeAssert (.iface 86 (.agg #[.int .i64 x, .int .i64 l, .slice yo yn yc])) 20 86 false) q = .ok (.agg #[.int .i64 x, .int .i64 l, .slice yo yn yc]) q := by kernel_rfl
theorem run_pushH {w : World} {G c : Nat} {cur : List Value} {E : List TE} (h : RowT w G cur E) (hcl : cur.length = c * 3) (hc : E.length < c) (x l : Int) (yo : Option Addr) (yn yc : Nat) (B : Nat) (hb : Blk w B [.int .i64 x, .int .i64 l, .slice yo yn yc] 86) (ty : TypeId) :
    (Builtin.append_ #[62, 62] ty #[.slice (some ⟨G, 0, none⟩) E.length c, .slice (some ⟨B, 0, none⟩) 1 1]).run Try.prog w = .ok (.slice (some ⟨G, 0, none⟩) (E.length + 1) c) (w.setCells G (0 + E.length * 3) [.int .i64 x, .int .i64 l, .slice yo yn yc]) := by
  obtain ⟨i, hi, hz0, hz1, hz2⟩ := info_parts Try.info86
  have hi3 : i.size = 3 := hz1
  have key := run_append_room_cells (P := Try.prog) w 62 ty 86 i Try.underlying62 hi G 0 E.length c ⟨B, 0, none⟩ 1 1 [.int .i64 x, .int .i64 l, .slice yo yn yc] (by rw [hi3]; rfl)
    (fun j u hj => by rw [Addr.add_lit, Nat.zero_add]; exact hb.cell hj) (by intro u hu; simp at hu; rcases hu with rfl | rfl | rfl <;> rfl) (by omega)
    (fun j hj => by
      rw [hi3, Nat.zero_add]
      have hj3 : j < 3 := hj
      have hlt : E.length * 3 + j < cur.length := by omega
      rw [h.1.cell (List.getElem?_eq_getElem hlt)]
      rfl)
    (fun j hj => by rw [Nat.zero_add]; exact h.1.free _)
  rw [hi3] at key
  exact key
theorem step_pushH {ops : Array Oper} {o : Oper} {a : Act} {K : Act → World → Prop} {Q : Exit → Act → World → Prop} {X : Prop} (w : World) (hgd : o.guard = none) (s x : Operand)
    (ho : o.op = .call { callee := .builtin .append, args := #[s, x], argTypes := #[62, 62] }) (G c n B : Nat) (W' : World)
    (hA : ∀ ty, (Builtin.append_ #[62, 62] ty #[.slice (some ⟨G, 0, none⟩) n c, .slice (some ⟨B, 0, none⟩) 1 1]).run Try.prog w = .ok (.slice (some ⟨G, 0, none⟩) (n + 1) c) W')
    (hs : a.eval s = .slice (some ⟨G, 0, none⟩) n c) (hx : a.eval x = .slice (some ⟨B, 0, none⟩) 1 1)
    (h : K (a.put o.dst (.slice (some ⟨G, 0, none⟩) (n + 1) c)) W') :
    if Region.wanted o (yielded ops a.tmps) = true then Oper.wp Try.prog o a w K Q else X := by
  have hw : Region.wanted o (yielded ops a.tmps) = true := by simp [Region.wanted, hgd]
  rw [if_pos hw]
  unfold Oper.wp execOp
  simp only [ho, resolve, invoke, builtin, Sem.run_bind, Sem.run_pure, Result.andThen_ok, List.map_toArray, List.map_cons, List.map_nil, hs, hx, hA]
  exact h

set_option maxRecDepth 20000 in
set_option maxHeartbeats 1600000 in
/-- treeHeap.Push where the row has room. -/
theorem pushm_any (T G c : Nat) (E : List TE) (x l : Int) (yo : Option Addr) (yn yc : Nat) (s : List Int) (w : World) (hTG : T ≠ G) (hl : E.length ≤ 1000) (hc : E.length < c) (h : HpM w T G c E) :
    Calls Try.prog 94 #[.pointer (some ⟨T, 0, none⟩), .iface 86 (.agg #[.int .i64 x, .int .i64 l, .slice yo yn yc])] w fun e w' => e = .returned (.tuple #[]) ∧ HpM w' T G c (E ++ [(x, l, .slice yo yn yc, s)]) ∧ Ef2 T G w w' := by
  obtain ⟨hT, cur, hcl, hr⟩ := h
  have hT0 := hT.cell (i := 0) rfl
  have hTf := hT.free 0
  have HA : ∀ ty, (Builtin.append_ #[62, 62] ty #[.slice (some ⟨G, 0, none⟩) E.length c, .slice (some ⟨w.heap.size, 0, none⟩) 1 1]).run Try.prog (w.drew.alloc (.cells #[.int .i64 x, .int .i64 l, .slice yo yn yc] 86)) = .ok (.slice (some ⟨G, 0, none⟩) (E.length + 1) c) ((w.drew.alloc (.cells #[.int .i64 x, .int .i64 l, .slice yo yn yc] 86)).setCells G (0 + E.length * 3) [.int .i64 x, .int .i64 l, .slice yo yn yc]) := fun ty =>
    run_pushH (E := E) ⟨Blk.allocK (q := w.drew) hr.1 _, hr.2⟩ hcl hc x l yo yn yc w.heap.size (blk_new w.drew _ _) ty
  have HTA : ∀ W', Ef G (w.drew.alloc (.cells #[.int .i64 x, .int .i64 l, .slice yo yn yc] 86)) W' → Blk W' T [.slice (some ⟨G, 0, none⟩) E.length c] 62 := fun W' he => (Blk.allocK (q := w.drew) hT _).ef he hTG
  have HTY := fun q => ta_tree q x l yo yn yc
  have HW : ∃ W', W' = (w.drew.alloc (.cells #[.int .i64 x, .int .i64 l, .slice yo yn yc] 86)).setCells G (0 + E.length * 3) [.int .i64 x, .int .i64 l, .slice yo yn yc] := ⟨_, rfl⟩
  obtain ⟨W', hW'⟩ := HW
  have hEf : Ef G (w.drew.alloc (.cells #[.int .i64 x, .int .i64 l, .slice yo yn yc] 86)) W' := by rw [hW']; exact Ef.setCells _ _ _
  have hRW : RowT W' G (((cur.set (E.length * 3) (.int .i64 x)).set (E.length * 3 + 1) (.int .i64 l)).set (E.length * 3 + 2) (.slice yo yn yc)) (E ++ [(x, l, .slice yo yn yc, s)]) := by
    rw [hW']
    exact RowT.push (E := E) ⟨Blk.allocK (q := w.drew) hr.1 _, hr.2⟩ hcl hc (x, l, .slice yo yn yc, s)
  rw [← hW'] at HA
  have hTb := HTA W' hEf
  have hTc := hTb.cell (i := 0) rfl
  have hTg := hTb.free 0
  have HF := hid (show HpM (W'.setCell ⟨T, 0, none⟩ (.slice (some ⟨G, 0, none⟩) (E.length + 1) c)) T G c (E ++ [(x, l, .slice yo yn yc, s)]) ∧ Ef2 T G w (W'.setCell ⟨T, 0, none⟩ (.slice (some ⟨G, 0, none⟩) (E.length + 1) c)) from by
    refine ⟨⟨?_, _, ?_, hRW.1.otherB (fun e => hTG e.symm) _, hRW.2⟩, ?_⟩
    · have := hTb.set 0 (.slice (some ⟨G, 0, none⟩) (E.length + 1) c)
      simpa using this
    · simpa using hcl
    · have h1 : Ef G w W' := ((Ef.refl G w).drewN 1).trans ((Ef.alloc w.drew _ _).trans hEf)
      exact (h1.toR T).trans ((Ef.set W' 0 _ : Ef T W' _).toL G))
  have HA := hid HA
  have hTAc : ∀ (vs : Array Value) (u : TypeId), (w.alloc (.cells vs u)).cell? ⟨T, 0, none⟩ = some (.slice (some ⟨G, 0, none⟩) E.length c) := fun vs u => (hT.allocK _).cell (i := 0) rfl
  clear hRW hEf hW' HTA hr hcl hT hTb
  go_enter Try.func94, Try.ntmps94
  go_region_law (first | (refine step_pushH (w.drew.alloc (.cells #[.int .i64 x, .int .i64 l, .slice yo yn yc] 86)) rfl (.tmp 7) (.tmp 10) rfl G c E.length w.heap.size W' HA.out (by rfl) (by rfl) ?_))
  all_goals go_end0
  all_goals exact ⟨rfl, HF.out⟩
end Go.Proofs.Ytmdmolofiblbmaa
