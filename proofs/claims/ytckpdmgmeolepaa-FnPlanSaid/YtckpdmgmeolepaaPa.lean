/- Appends of a piece that is only read, literals of ints, and the plain decisions of a number. -/
import Derived.Test.YtckpdmgmeolepaaNumB
import Derived.Test.YtckpdmgmeolepaaSize
import Derived.Test.YtckpdmgmeolepaaWk
import Derived.Laws.AppendOwnNone
namespace Go.Proofs.Ytckpdmgmeolepaa
open Go.RowKit
set_option linter.unusedVariables false

/-- 'out = append(out, ys...)', ys a piece that is only read. -/
theorem wpList_appV {P : Program} {ops : Array Oper} {rest : List Oper} {o : Oper} {a : Act} {Q : Exit → Act → World → Prop} (w : World) (hgd : o.guard = none) (s x : Operand) (t : TypeId)
    (ho : o.op = .call { callee := .builtin .append, args := #[s, x], argTypes := #[t, t] })
    (base : Nat) (e : TypeId) (k : IntKind) (z : Int) (bytes : Nat) (ht : P.underlying t = some (.slice e)) (hinfo : (P.info? e).map (fun i => (i.zero, i.size, i.bytes)) = some (some (.int k z), 1, bytes))
    (v : Value) (xs : List Int) (hs : a.eval s = v) (hown : Own w base e k v xs) (yo : Option Addr) (yn yc : Nat) (ys : List Int) (hx : a.eval x = .slice yo yn yc) (hy : View k w yo yn ys) (hyo : (yo = none ∧ yn = 0 ∧ yc = 0) ∨ ∃ blk off, yo = some ⟨blk, off, none⟩)
    (hlen : xs.length + ys.length < 1000000000000) (hbytes : bytes ≤ 8)
    (h : ∀ v' w', Own w' base e k v' (xs ++ ys) → Below base w w' → wpList P ops Q rest (a.put o.dst v') w') : wpList P ops Q (o :: rest) a w := by
  obtain ⟨i, hi, hz0, hz1, hz2⟩ := info_parts hinfo
  have hb := hown.1
  have hlt := hown.2.lt
  have hmul : (xs.length + ys.length) * bytes ≤ (xs.length + ys.length) * 8 := Nat.mul_le_mul_left _ hbytes
  have hyl : ys.length = yn := hy.1
  subst hyl
  rcases hyo with ⟨rfl, h0, rfl⟩ | ⟨blk, off, rfl⟩
  · have : ys = [] := List.length_eq_zero_iff.1 h0
    subst this
    refine wpList_append_own_none hgd s x t ho base e i 1 ht hi v xs.length _ hs hown.2 hx (h v w (by simpa using hown) (Below.refl _ _))
  · refine wpList_append_own _ hgd s x t ho base e i (.int k z) 1 bytes ht hi hz0 hz1 hz2 rfl (by decide) v xs.length _ hs hown.2 ⟨blk, off, none⟩ ys.length yc (ys.map (Value.int k)) hx (by simp) ?_ ?_ (by unfold maxLen; omega) (by omega) hb ?_
    · intro j u hj
      have hjl : j < ys.length := by have := (List.getElem?_eq_some_iff.1 hj).1; simpa using this
      obtain ⟨b', off', e', hc⟩ := hy.2 j hjl
      cases e'
      simp [hjl] at hj
      rw [Addr.add_lit, hc, ← hj]
      simp [List.getD, hjl]
    · intro u hu
      simp at hu
      obtain ⟨q, _, rfl⟩ := hu
      rfl
    · intro v' w' hown' hgrow _
      refine h v' w' ⟨Nat.le_trans hb hgrow.size, ?_⟩ ?_
      · simpa using hown'
      · exact (Below.refl base w).grown hgrow hb (fun g hg => (hlt g hg).1)

/-- A literal. -/
theorem Own.lit (w : World) (e : TypeId) (k : IntKind) (base : Nat) (xs : List Int) (hb : base ≤ w.heap.size) (hl : xs.length ≤ 1000000) : Own (w.alloc (.cells (xs.map (Value.int k)).toArray e)) base e k (.slice (some ⟨w.heap.size, 0, none⟩) xs.length xs.length) xs := by
  refine ⟨by simp; omega, by simp, .inr ⟨w.heap.size, xs.length, (xs.map (Value.int k)).toArray, rfl, hb, heap_alloc_new w _, Nat.le_refl _, by unfold maxLen; omega, by simp, by simp [List.take_of_length_le]⟩⟩

def bI (b : Bool) : Int := if b then 1 else 0
/-- Whether n is above 1, 2, ... -/
def sb (n : Int) (c : Nat) : List Int := (List.range c).map fun (j : Nat) => bI (decide (((j : Nat) : Int) + 1 < n))
theorem sb_succ (n : Int) (c : Nat) : sb n (c + 1) = sb n c ++ [bI (decide ((c : Int) + 1 < n))] := by
  unfold sb
  rw [List.range_succ, List.map_append]
  rfl
theorem sb_length (n : Int) (c : Nat) : (sb n c).length = c := by simp [sb]
/-- The decisions of a number. -/
def planP (x : Int) : List Int :=
  if sz x < 0 then [] else if sz x = 0 then [1] else
    0 :: bI (decide (x < 0)) :: (sb (sz x) (min (sz x).toNat 10) ++ bl (rbX ((x.natAbs : Int) - 2 ^ ((sz x).toNat - 1)) ((sz x).toNat - 1)) ((sz x).toNat - 1))

theorem sz_pow {x : Int} {n : Nat} (h : sz x = (n : Int)) (hn : 1 ≤ n) : (2 : Int) ^ (n - 1) ≤ (x.natAbs : Int) ∧ (x.natAbs : Int) < 2 ^ n ∧ n ≤ 11 ∧ -2047 ≤ x ∧ x ≤ 2047 := by
  by_cases hx : -2047 ≤ x ∧ x ≤ 2047
  · rw [sz_in hx] at h
    have hb : Lib.bitLen x.natAbs = n := by omega
    have h1 := bitLen_at x.natAbs (n - 1) (by omega) (by have := (bitLen_at x.natAbs 0 (by omega) (by omega)).2; omega)
    have h11 : n ≤ 11 := by rw [← hb]; exact h1.2
    have h2 := bitLen_at x.natAbs n (by omega) h11
    rw [hb] at h1 h2
    have a1 := h1.1.2 (by omega)
    have a2 : ¬ 2 ^ n ≤ x.natAbs := fun k => by have := h2.1.1 k; omega
    have c1 := pow_cast (n - 1)
    have c2 := pow_cast n
    exact ⟨by omega, by omega, h11, hx⟩
  · rw [sz_out hx] at h
    omega
theorem rbX_drop (y : Int) (n j : Nat) (h : j + 1 < n) : rbX y n (j + 1) = rbX (y - 2 ^ (n - 1)) (n - 1) j := by
  unfold rbX
  rw [show n - 1 - 1 - j = n - 1 - (j + 1) by omega]
  obtain ⟨m, hm⟩ : ∃ m, n - 1 - (j + 1) = m := ⟨_, rfl⟩
  obtain ⟨d, hd⟩ : ∃ d, n - 1 = m + (d + 1) := ⟨n - 1 - m - 1, by omega⟩
  rw [hm, hd]
  have hp : (0 : Int) < 2 ^ m := Int.pow_pos (by decide)
  rw [show y - 2 ^ (m + (d + 1)) = y + (-(2 ^ (d + 1))) * 2 ^ m by rw [Int.pow_add, Int.neg_mul, Int.mul_comm]; omega]
  rw [Int.add_mul_ediv_right _ _ (Int.ne_of_gt hp), Int.pow_succ]
  omega
theorem bl_drop (y : Int) (n : Nat) (hn : 1 ≤ n) : (bl (rbX y n) n).drop 1 = bl (rbX (y - 2 ^ (n - 1)) (n - 1)) (n - 1) := by
  refine list_eq_of_getD (by rw [List.length_drop, bl_length, bl_length]) (fun i hi => ?_)
  rw [List.length_drop, bl_length] at hi
  rw [bl_get _ _ _ hi, ← rbX_drop y n i (by omega)]
  rw [List.getD_eq_getElem?_getD, List.getElem?_drop, ← List.getD_eq_getElem?_getD, Nat.add_comm 1 i, bl_get _ _ _ (by omega)]
end Go.Proofs.Ytckpdmgmeolepaa
