/- Aids for the contract of l04Block of the specification: symbols, and appends of a piece of the bits. -/
import Derived.Test.YtcikmgdfelejpaaJRdT
import Derived.Test.YtcikmgdfelejpaaJSymSpec
import Derived.Test.YtcikmgdfelejpaaJStpG
namespace Go.Proofs.Ytcikmgdfelejpaa
open Go.RowKit Go.Maps
set_option linter.unusedVariables false

/-- What l02Sym answers. -/
def LsP (T : Tb) (t : Int) (xs : List Int) (i : Nat) (w : World) (e : Ending) (w' : World) : Prop :=
  ((∃ s n : Nat, T.sym t xs i = some ((s : Int), n) ∧ i < n ∧ n ≤ xs.length ∧ s ≤ 255 ∧ e = .returned (.tuple #[.int .i64 (s : Int), .int .i64 (n : Int)])) ∨ (T.sym t xs i = none ∧ e = .returned (.tuple #[.int .i64 (-1), .int .i64 (-1)]))) ∧ Below w.heap.size w w'
/-- One of the tables, and its codes. -/
def TabAt (w : World) (v va : Value) (T : Tb) (t : Int) (base : Nat) : Prop := (∃ cs, CV w v cs (T.S t)) ∧ AllAt w base va (T.K t)
theorem TabAt.below {w w' : World} {v va : Value} {T : Tb} {t : Int} {base : Nat} (h : TabAt w v va T t base) (hb : Below w.heap.size w w') : TabAt w' v va T t base := by
  obtain ⟨⟨cs, h1⟩, h2⟩ := h
  exact ⟨⟨cs, h1.below hb⟩, h2.below hb⟩
theorem sym_tab (v va : Value) (T : Tb) (t : Int) (xs : List Int) (ao : Option Addr) (cap i base : Nat) (w : World) (ht : t = 0 ∨ t = 1) (hT : T.right) (hn : xs.length ≤ 1048576) (hi : i ≤ xs.length) (h : TabAt w v va T t base) (hx : View .i64 w ao xs.length xs) :
    Calls Try.prog 78 #[v, va, .slice ao xs.length cap, .int .i64 i] w (LsP T t xs i w) := by
  obtain ⟨⟨cs, h1⟩, h2⟩ := h
  have key : ∀ cs ss, rightC cs ss = true → (∀ x ∈ keysTo cs 16, KeyOk x) ∧ (keysTo cs 16).length = ss.length ∧ ss.length ≤ 1048576 ∧ ∀ p, p < (keysTo cs 16).length → 0 ≤ ss.getD p 0 ∧ ss.getD p 0 ≤ 255 := fun cs ss hr => by
    obtain ⟨⟨hl, hok, ht, hroom⟩, htold, hap⟩ := (right_iff cs ss).1 hr
    have hkl := keys_len cs ss hr
    refine ⟨keysTo_ok cs hok hroom 16 (by omega), hkl, ?_, fun p hp => ?_⟩
    · omega
    · rw [hkl] at hp
      exact apart_in ss _ hap p hp
  have hk : (∀ x ∈ T.K t, KeyOk x) ∧ (T.K t).length = (T.S t).length ∧ (T.S t).length ≤ 1048576 ∧ ∀ p, p < (T.K t).length → 0 ≤ (T.S t).getD p 0 ∧ (T.S t).getD p 0 ≤ 255 := by
    rcases ht with rfl | rfl
    · exact key _ _ hT.1
    · exact key _ _ hT.2
  refine (sym_spec v va cs (T.S t) xs (T.K t) ao cap i base w hn hi hk.1 hk.2.1 hk.2.2.1 h1 h2 hx).mono ?_
  rintro e w' ⟨r0, r1, rfl, hs, hb⟩
  have hgt : r1 = -1 ∨ (i : Int) < r1 := by
    rcases hs with ⟨p, hp, hm, _, _, rfl⟩ | ⟨_, _, rfl⟩
    · have hmem : kp (T.K t) p ∈ T.K t := by simp [kp, List.getD, hp]
      have := (hk.1 _ hmem).1.1
      exact .inr (by omega)
    · exact .inl rfl
  rcases symF_of hs with ⟨rfl, rfl, hnone⟩ | ⟨n, rfl, hsome, hin, hnl, p, hp, hr0⟩
  · exact ⟨.inr ⟨hnone, rfl⟩, hb⟩
  · have hbd := hk.2.2.2 p hp
    rw [← hr0] at hbd
    obtain ⟨m, rfl⟩ : ∃ m : Nat, r0 = (m : Int) := ⟨r0.toNat, by omega⟩
    exact ⟨.inl ⟨m, n, hsome, by omega, hnl, by omega, rfl⟩, hb⟩

/-- 'out = append(out, ys...)', ys a piece that is only read. -/
theorem wpList_appV {P : Program} {ops : Array Oper} {rest : List Oper} {o : Oper} {a : Act} {Q : Exit → Act → World → Prop} (w : World) (hgd : o.guard = none) (s x : Operand) (t : TypeId)
    (ho : o.op = .call { callee := .builtin .append, args := #[s, x], argTypes := #[t, t] })
    (base : Nat) (e : TypeId) (k : IntKind) (z : Int) (bytes : Nat) (ht : P.underlying t = some (.slice e)) (hinfo : (P.info? e).map (fun i => (i.zero, i.size, i.bytes)) = some (some (.int k z), 1, bytes))
    (v : Value) (xs : List Int) (hs : a.eval s = v) (hown : Own w base e k v xs) (yo : Option Addr) (yn yc : Nat) (ys : List Int) (hx : a.eval x = .slice yo yn yc) (hy : View k w yo yn ys) (hyo : (yo = none ∧ yn = 0 ∧ yc = 0) ∨ ∃ blk off, yo = some ⟨blk, off, none⟩)
    (hlen : xs.length + ys.length < 1000000000000) (hbytes : bytes ≤ 8)
    (h : ∀ v' w', Own w' base e k v' (xs ++ ys) → Below base w w' → wpList P ops Q rest (a.put o.dst v') w') : wpList P ops Q (o :: rest) a w := by
  obtain ⟨i, hi, hz0, hz1, hz2⟩ := info_parts hinfo
  have hb := hown.1
  have hlt := hown.2.lt
  have hmul : (xs.length + ys.length) * bytes ≤ (xs.length + ys.length) * 8 := Nat.mul_le_mul_left _ hbytes
  have hyl : ys.length = yn := hy.1
  subst hyl
  rcases hyo with ⟨rfl, h0, rfl⟩ | ⟨blk, off, rfl⟩
  · have : ys = [] := List.length_eq_zero_iff.1 h0
    subst this
    refine wpList_append_own_none hgd s x t ho base e i 1 ht hi v xs.length _ hs hown.2 hx (h v w (by simpa using hown) (Below.refl _ _))
  · refine wpList_append_own _ hgd s x t ho base e i (.int k z) 1 bytes ht hi hz0 hz1 hz2 rfl (by decide) v xs.length _ hs hown.2 ⟨blk, off, none⟩ ys.length yc (ys.map (Value.int k)) hx (by simp) ?_ ?_ (by unfold maxLen; omega) (by omega) hb ?_
    · intro j u hj
      have hjl : j < ys.length := by have := (List.getElem?_eq_some_iff.1 hj).1; simpa using this
      obtain ⟨b', off', e', hc⟩ := hy.2 j hjl
      cases e'
      simp [hjl] at hj
      rw [Addr.add_lit, hc, ← hj]
      simp [List.getD, hjl]
    · intro u hu
      simp at hu
      obtain ⟨q, _, rfl⟩ := hu
      rfl
    · intro v' w' hown' hgrow _
      refine h v' w' ⟨Nat.le_trans hb hgrow.size, ?_⟩ ?_
      · simpa using hown'
      · exact (Below.refl base w).grown hgrow hb (fun g hg => (hlt g hg).1)
end Go.Proofs.Ytcikmgdfelejpaa
