/- Copies of rows of numbers: slices.Clone, append to an empty slice. -/
import Derived.Test.YtnnakmgngkpghaaGreatMt
import Derived.Laws.AppendOwnNone
import Derived.Lib.SliceRun
namespace Go.Proofs.YtnnakmgngkpghaaGreat
open Go.RowKit
set_option linter.unusedVariables false

/-- 'out = append(out, ys...)', ys wherever it lies. -/
theorem wpList_appV {P : Program} {ops : Array Oper} {rest : List Oper} {o : Oper} {a : Act} {Q : Exit → Act → World → Prop} (w : World) (hgd : o.guard = none) (s x : Operand) (t : TypeId)
    (ho : o.op = .call { callee := .builtin .append, args := #[s, x], argTypes := #[t, t] })
    (base : Nat) (e : TypeId) (k : IntKind) (z : Int) (bytes : Nat) (ht : P.underlying t = some (.slice e)) (hinfo : (P.info? e).map (fun i => (i.zero, i.size, i.bytes)) = some (some (.int k z), 1, bytes))
    (v : Value) (xs : List Int) (hs : a.eval s = v) (hown : Own w base e k v xs) (yo : Option Addr) (yn yc : Nat) (ys : List Int) (hx : a.eval x = .slice yo yn yc) (hy : View k w yo yn ys) (hyo : (yo = none ∧ yn = 0 ∧ yc = 0) ∨ ∃ blk off, yo = some ⟨blk, off, none⟩)
    (hlen : xs.length + ys.length < 1000000000000) (hbytes : bytes ≤ 8)
    (h : ∀ v' w', Own w' base e k v' (xs ++ ys) → Below base w w' → wpList P ops Q rest (a.put o.dst v') w') : wpList P ops Q (o :: rest) a w := by
  obtain ⟨i, hi, hz0, hz1, hz2⟩ := info_parts hinfo
  have hb := hown.1
  have hlt := hown.2.lt
  have hmul : (xs.length + ys.length) * bytes ≤ (xs.length + ys.length) * 8 := Nat.mul_le_mul_left _ hbytes
  have hyl : ys.length = yn := hy.1
  subst hyl
  rcases hyo with ⟨rfl, h0, rfl⟩ | ⟨blk, off, rfl⟩
  · have : ys = [] := List.length_eq_zero_iff.1 h0
    subst this
    refine wpList_append_own_none hgd s x t ho base e i 1 ht hi v xs.length _ hs hown.2 hx (h v w (by simpa using hown) (Below.refl _ _))
  · refine wpList_append_own _ hgd s x t ho base e i (.int k z) 1 bytes ht hi hz0 hz1 hz2 rfl (by decide) v xs.length _ hs hown.2 ⟨blk, off, none⟩ ys.length yc (ys.map (Value.int k)) hx (by simp) ?_ ?_ (by unfold maxLen; omega) (by omega) hb ?_
    · intro j u hj
      have hjl : j < ys.length := by have := (List.getElem?_eq_some_iff.1 hj).1; simpa using this
      obtain ⟨b', off', e', hc⟩ := hy.2 j hjl
      cases e'
      simp [hjl] at hj
      rw [Addr.add_lit, hc, ← hj]
      simp [List.getD, hjl]
    · intro u hu
      simp at hu
      obtain ⟨q, _, rfl⟩ := hu
      rfl
    · intro v' w' hown' hgrow _
      refine h v' w' ⟨Nat.le_trans hb hgrow.size, ?_⟩ ?_
      · simpa using hown'
      · exact (Below.refl base w).grown hgrow hb (fun g hg => (hlt g hg).1)
/-- A slice that reads as numbers; nil only where it is empty and has no room. -/
def Vp (w : World) (v : Value) (xs : List Int) : Prop := ∃ ao cap, v = .slice ao xs.length cap ∧ View .i64 w ao xs.length xs ∧ ((ao = none ∧ xs.length = 0 ∧ cap = 0) ∨ ∃ blk off, ao = some ⟨blk, off, none⟩)
theorem Own.vp {w : World} {base : Nat} {v : Value} {xs : List Int} (h : Own w base 3 .i64 v xs) : Vp w v xs := by
  obtain ⟨ao, cap, e, hv⟩ := h.view
  refine ⟨ao, cap, e, hv, ?_⟩
  rcases h.2.2 with ⟨h0, h1⟩ | ⟨g, c, cur, h0, _⟩
  · rw [e] at h0
    simp only [Value.slice.injEq] at h0
    obtain ⟨rfl, h2, rfl⟩ := h0
    exact .inl ⟨rfl, h2, rfl⟩
  · rw [e] at h0
    simp only [Value.slice.injEq] at h0
    obtain ⟨rfl, h2, rfl⟩ := h0
    exact .inr ⟨g, 0, rfl⟩
theorem Vp.below {w w' : World} {v : Value} {xs : List Int} (h : Vp w v xs) (hb : Below w.heap.size w w') : Vp w' v xs := by
  obtain ⟨ao, cap, e, hv, hp⟩ := h
  exact ⟨ao, cap, e, hv.below (Nat.le_refl _) hb, hp⟩

set_option maxRecDepth 100000 in
set_option maxHeartbeats 1600000 in
theorem clone_any (v : Value) (xs : List Int) (w : World) (hn : xs.length ≤ 1048576) (h : Vp w v xs) :
    Calls Tryz.prog 85 #[v] w fun e w' => ∃ v', e = .returned v' ∧ Own w' w.heap.size 3 .i64 v' xs ∧ Below w.heap.size w w' := by
  obtain ⟨ao, cap, rfl, hv, hp⟩ := h
  have q24 : ∀ (w : World) (a : Option Addr) (n c n' c' : Nat), (binOp .eql 22 (.slice a n c) (.slice none n' c')).run Tryz.prog w = .ok (.bool a.isNone) w := fun w a n c n' c' => Lib.run_eql_slice_nil w _ _ a n c n' c' Tryz.underlying22
  rcases hp with ⟨rfl, h0, rfl⟩ | ⟨blk, off, rfl⟩
  · have hxs : xs = [] := List.length_eq_zero_iff.1 h0
    subst hxs
    clear hv
    go_enter Tryz.func85, Tryz.ntmps85
    go_wp2_with fail
    go_ret
    exact ⟨_, rfl, Own.nil _ _ _ _ (Nat.le_refl _), Below.refl _ _⟩
  · have HO0 := hid (Own.empty w 3 .i64 w.heap.size (Nat.le_refl _))
    have HB0 := hid ((Below.refl w.heap.size w).alloc (Nat.le_refl _) (.cells #[] 3))
    have HV0 := hid (hv.below (Nat.le_refl _) HB0.out)
    have hlen : ([] : List Int).length + xs.length < 1000000000000 := by simp; omega
    have hyo : ((some (⟨blk, off, none⟩ : Addr)) = none ∧ xs.length = 0 ∧ cap = 0) ∨ ∃ b o, (some (⟨blk, off, none⟩ : Addr)) = some ⟨b, o, none⟩ := .inr ⟨_, _, rfl⟩
    have HYO := hid hyo
    clear hv hyo
    go_enter Tryz.func85, Tryz.ntmps85
    go_wp2_with (at_builtin; refine wpList_appV _ rfl _ _ 22 rfl w.heap.size 3 .i64 0 8 Tryz.underlying22 Tryz.info3 _ _ rfl HO0.out (some ⟨blk, off, none⟩) xs.length cap xs rfl HV0.out HYO.out hlen (by decide) ?_)
    intro v3 w3 hown3 hb3
    have HO3 := hid hown3
    have HB3 := hid (HB0.out.trans hb3)
    obtain ⟨ao3, cap3, rfl⟩ := hown3.shape
    clear hown3 hb3
    go_wp2_with fail
    go_ret
    refine ⟨_, rfl, ?_, HB3.out⟩
    simpa using HO3.out
end Go.Proofs.YtnnakmgngkpghaaGreat
