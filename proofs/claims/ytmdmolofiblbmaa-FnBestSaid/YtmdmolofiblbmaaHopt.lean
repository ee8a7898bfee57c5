/- Plain: no lengths that fit cost less than those of the best codes. -/
import Derived.Test.YtmdmolofiblbmaaKs
import Derived.Test.YtmdmolofiblbmaaSpend
import Derived.Test.YtmdmolofiblbmaaKt
namespace Go.Proofs.Ytmdmolofiblbmaa
open Go.RowKit
set_option linter.unusedVariables false

abbrev WD := Int × Nat
def cD : List WD → Int
  | [] => 0
  | x :: D => x.1 * (x.2 : Int) + cD D
def kD (N : Nat) : List WD → Nat
  | [] => 0
  | x :: D => 2 ^ (N - x.2) + kD N D
theorem cD_perm {A B : List WD} (h : A.Perm B) : cD A = cD B := by
  induction h with
  | nil => rfl
  | cons x _ ih => rw [cD, cD, ih]
  | swap x y l => simp only [cD]; omega
  | trans _ _ h1 h2 => rw [h1, h2]
theorem kD_perm (N : Nat) {A B : List WD} (h : A.Perm B) : kD N A = kD N B := by
  induction h with
  | nil => rfl
  | cons x _ ih => rw [kD, kD, ih]
  | swap x y l => simp only [kD]; omega
  | trans _ _ h1 h2 => rw [h1, h2]
/-- One weight is handed the greatest depth: the depths of a list are swapped with its own. -/
def sw : Nat → List WD → Nat × List WD
  | d, [] => (d, [])
  | d, x :: D => if d < x.2 then ((sw x.2 D).1, (x.1, d) :: (sw x.2 D).2) else ((sw d D).1, x :: (sw d D).2)
theorem sw_fst : ∀ (D : List WD) (d : Nat), (sw d D).2.map Prod.fst = D.map Prod.fst
  | [], d => rfl
  | x :: D, d => by
    rw [sw]
    split
    · show x.1 :: (sw x.2 D).2.map Prod.fst = _
      rw [sw_fst D x.2]
      rfl
    · show x.1 :: (sw d D).2.map Prod.fst = _
      rw [sw_fst D d]
      rfl
theorem sw_max : ∀ (D : List WD) (d : Nat), d ≤ (sw d D).1 ∧ ∀ x ∈ (sw d D).2, x.2 ≤ (sw d D).1
  | [], d => ⟨Nat.le_refl _, fun x hx => by cases hx⟩
  | x :: D, d => by
    rw [sw]
    split
    · rename_i h
      obtain ⟨h1, h2⟩ := sw_max D x.2
      refine ⟨by show d ≤ (sw x.2 D).1; omega, fun y hy => ?_⟩
      rcases List.mem_cons.1 hy with e | e
      · subst e; show d ≤ (sw x.2 D).1; omega
      · exact h2 y e
    · rename_i h
      obtain ⟨h1, h2⟩ := sw_max D d
      refine ⟨h1, fun y hy => ?_⟩
      rcases List.mem_cons.1 hy with e | e
      · subst e; show y.2 ≤ (sw d D).1; omega
      · exact h2 y e
theorem sw_le (B : Nat) : ∀ (D : List WD) (d : Nat), d ≤ B → (∀ x ∈ D, x.2 ≤ B) → (sw d D).1 ≤ B ∧ ∀ x ∈ (sw d D).2, x.2 ≤ B
  | [], d, hd, _ => ⟨hd, fun x hx => by cases hx⟩
  | x :: D, d, hd, hD => by
    have hx := hD x (List.mem_cons_self ..)
    have hD' : ∀ y ∈ D, y.2 ≤ B := fun y hy => hD y (List.mem_cons_of_mem _ hy)
    rw [sw]
    split
    · obtain ⟨h1, h2⟩ := sw_le B D x.2 hx hD'
      refine ⟨h1, fun y hy => ?_⟩
      rcases List.mem_cons.1 hy with e | e
      · subst e; exact hd
      · exact h2 y e
    · obtain ⟨h1, h2⟩ := sw_le B D d hd hD'
      refine ⟨h1, fun y hy => ?_⟩
      rcases List.mem_cons.1 hy with e | e
      · subst e; exact hx
      · exact h2 y e
theorem sw_kraft (N : Nat) : ∀ (D : List WD) (d : Nat), 2 ^ (N - (sw d D).1) + kD N (sw d D).2 = 2 ^ (N - d) + kD N D
  | [], d => rfl
  | x :: D, d => by
    rw [sw]
    split
    · have := sw_kraft N D x.2
      simp only [kD]
      omega
    · have := sw_kraft N D d
      simp only [kD]
      omega
theorem sw_cost (a : Int) : ∀ (D : List WD) (d : Nat), (∀ x ∈ D, a ≤ x.1) → a * ((sw d D).1 : Int) + cD (sw d D).2 ≤ a * (d : Int) + cD D
  | [], d, _ => Int.le_refl _
  | x :: D, d, h => by
    have hx := h x (List.mem_cons_self ..)
    have hD : ∀ y ∈ D, a ≤ y.1 := fun y hy => h y (List.mem_cons_of_mem _ hy)
    rw [sw]
    split
    · rename_i hlt
      have ih := sw_cost a D x.2 hD
      simp only [cD]
      have h1 : 0 ≤ (x.1 - a) * ((x.2 : Int) - (d : Int)) := Int.mul_nonneg (by omega) (by omega)
      rw [Int.sub_mul, Int.mul_sub, Int.mul_sub] at h1
      omega
    · have ih := sw_cost a D d hD
      simp only [cD]
      omega
/-- A weight of a list stands with some depth. -/
theorem pull {a : Int} {D : List WD} {L : List Int} (h : (D.map Prod.fst).Perm (a :: L)) : ∃ d R, D.Perm ((a, d) :: R) ∧ (R.map Prod.fst).Perm L := by
  have hm : a ∈ D.map Prod.fst := h.mem_iff.2 (List.mem_cons_self ..)
  obtain ⟨y, hy, rfl⟩ := List.mem_map.1 hm
  have hp := List.perm_cons_erase hy
  refine ⟨y.2, D.erase y, hp, ?_⟩
  have h2 := (hp.map Prod.fst).symm.trans h
  exact List.Perm.cons_inv h2
theorem kD_div (N y : Nat) : ∀ (D : List WD), (∀ x ∈ D, x.2 ≤ y) → y ≤ N → ∃ t, kD N D = 2 ^ (N - y) * t
  | [], _, _ => ⟨0, rfl⟩
  | x :: D, h, hy => by
    obtain ⟨t, ht⟩ := kD_div N y D (fun z hz => h z (List.mem_cons_of_mem _ hz)) hy
    have hx := h x (List.mem_cons_self ..)
    refine ⟨2 ^ (y - x.2) + t, ?_⟩
    rw [kD, ht, Nat.mul_add, ← Nat.pow_add, show N - y + (y - x.2) = N - x.2 by omega]
theorem nonneg_cost : ∀ (D : List WD), (∀ x ∈ D, 0 ≤ x.1) → 0 ≤ cD D
  | [], _ => Int.le_refl _
  | x :: D, h => by
    have h1 := nonneg_cost D (fun z hz => h z (List.mem_cons_of_mem _ hz))
    have h2 : 0 ≤ x.1 * (x.2 : Int) := Int.mul_nonneg (h x (List.mem_cons_self ..)) (by omega)
    rw [cD]
    omega
/-- What the merges of trees weigh. -/
def hP : Nat → List PT → Int
  | 0, _ => 0
  | f + 1, S => if 1 < S.length then (stepP S).2.1 + hP f ((stepP S).1 ++ [(stepP S).2]) else 0
theorem two_least {S : List PT} (h : 1 < S.length) : ∃ a b S2, S.Perm (a :: b :: S2) ∧ (∀ x ∈ S, a.1 ≤ x.1) ∧ (∀ x ∈ S2, b.1 ≤ x.1) ∧ (stepP S).1 = S2 ∧ (stepP S).2 = mergeP a b := by
  have hb1 := least_best (S := S) (by omega)
  have p1 := erase_perm hb1.1
  have l1 : (S.eraseIdx (leastP S)).length = S.length - 1 := by rw [List.length_eraseIdx, if_pos hb1.1]
  have hb2 := least_best (S := S.eraseIdx (leastP S)) (by omega)
  have p2 := erase_perm hb2.1
  have hle : ∀ {T : List PT} {i : Nat}, (∀ j, j < T.length → kle (nthP T i) (nthP T j)) → ∀ x ∈ T, (nthP T i).1 ≤ x.1 := fun {T i} hh x hx => by
    obtain ⟨j, hj, rfl⟩ := List.mem_iff_getElem.1 hx
    have h1 := hh j hj
    have h2 : nthP T j = T[j] := by simp [nthP, List.getD, hj]
    rw [h2] at h1
    rcases h1 with h1 | h1
    · omega
    · omega
  exact ⟨_, _, _, p1.trans (List.Perm.cons _ p2), hle hb1.2, fun x hx => hle hb2.2 x (List.mem_of_mem_eraseIdx hx), rfl, rfl⟩
/-- Whatever depths the trees are given that fit, they cost no less than the merges weigh. -/
theorem huff (N : Nat) : ∀ (f : Nat) (S : List PT) (D : List WD), S.length ≤ f → (∀ x ∈ S, 0 ≤ x.1) → (D.map Prod.fst).Perm (S.map (·.1)) → (∀ x ∈ D, x.2 ≤ N) → kD N D ≤ 2 ^ N → hP f S ≤ cD D
  | 0, S, D, hf, h0, hp, hN, hk => by
    have hpos : ∀ x ∈ D, 0 ≤ x.1 := fun x hx => by
      have := hp.mem_iff.1 (List.mem_map_of_mem hx)
      obtain ⟨y, hy, e⟩ := List.mem_map.1 this
      rw [← e]
      exact h0 y hy
    exact nonneg_cost D hpos
  | f + 1, S, D, hf, h0, hp, hN, hk => by
    have hpos : ∀ x ∈ D, 0 ≤ x.1 := fun x hx => by
      have := hp.mem_iff.1 (List.mem_map_of_mem hx)
      obtain ⟨y, hy, e⟩ := List.mem_map.1 this
      rw [← e]
      exact h0 y hy
    rw [hP]
    by_cases h1 : 1 < S.length
    · rw [if_pos h1]
      obtain ⟨a, b, S2, q, la, lb, e1, e2⟩ := two_least h1
      have hlen := (step_two h1).2.2.2.2
      have ha0 := h0 a (q.mem_iff.2 (List.mem_cons_self ..))
      have hb0 := h0 b (q.mem_iff.2 (List.mem_cons_of_mem _ (List.mem_cons_self ..)))
      have hab := la b (q.mem_iff.2 (List.mem_cons_of_mem _ (List.mem_cons_self ..)))
      have h02 : ∀ x ∈ S2, 0 ≤ x.1 := fun x hx => h0 x (q.mem_iff.2 (List.mem_cons_of_mem _ (List.mem_cons_of_mem _ hx)))
      obtain ⟨da, R1, hR1, hm1⟩ := pull (a := a.1) (L := b.1 :: S2.map (·.1)) (hp.trans (q.map (·.1)))
      obtain ⟨db, R, hR2, hm2⟩ := pull hm1
      have hD : D.Perm ((a.1, da) :: (b.1, db) :: R) := hR1.trans (List.Perm.cons _ hR2)
      have hlo : ∀ x ∈ R, b.1 ≤ x.1 := fun x hx => by
        have := hm2.mem_iff.1 (List.mem_map_of_mem hx)
        obtain ⟨y, hy, e⟩ := List.mem_map.1 this
        rw [← e]
        exact lb y hy
      rw [kD_perm N hD] at hk
      rw [cD_perm hD]
      have hda : da ≤ N := hN (a.1, da) (hD.mem_iff.2 (List.mem_cons_self ..))
      have hdR : ∀ x ∈ (b.1, db) :: R, x.2 ≤ N := fun x hx => hN x (hD.mem_iff.2 (List.mem_cons_of_mem _ hx))
      have s1 := sw_kraft N ((b.1, db) :: R) da
      have s2 := sw_cost a.1 ((b.1, db) :: R) da (fun x hx => by
        rcases List.mem_cons.1 hx with e | e
        · subst e; exact hab
        · exact Int.le_trans hab (hlo x e))
      have s3 := sw_max ((b.1, db) :: R) da
      have s4 := (sw_le N ((b.1, db) :: R) da hda hdR).1
      have s5 := sw_fst ((b.1, db) :: R) da
      obtain ⟨x, hx⟩ : ∃ x, x = (sw da ((b.1, db) :: R)).1 := ⟨_, rfl⟩
      obtain ⟨T, hT⟩ : ∃ T, T = (sw da ((b.1, db) :: R)).2 := ⟨_, rfl⟩
      rw [← hx, ← hT] at s1 s2 s3
      rw [← hx] at s4
      rw [← hT] at s5
      clear hx hT
      obtain ⟨db', R', rfl, s6⟩ : ∃ db' R', T = (b.1, db') :: R' ∧ R'.map Prod.fst = R.map Prod.fst := by
        cases T with
        | nil => cases s5
        | cons t T =>
          injection s5 with g1 g2
          exact ⟨t.2, T, by rw [← g1], g2⟩
      have hm3 : (R'.map Prod.fst).Perm (S2.map (·.1)) := by rw [s6]; exact hm2
      have hlo' : ∀ z ∈ R', b.1 ≤ z.1 := fun z hz => by
        have := hm3.mem_iff.1 (List.mem_map_of_mem hz)
        obtain ⟨y, hy, e⟩ := List.mem_map.1 this
        rw [← e]
        exact lb y hy
      have t1 := sw_kraft N R' db'
      have t2 := sw_cost b.1 R' db' hlo'
      have t3 := sw_max R' db'
      have t4 := sw_le x R' db' (s3.2 _ (List.mem_cons_self ..)) (fun z hz => s3.2 z (List.mem_cons_of_mem _ hz))
      have t5 := sw_fst R' db'
      obtain ⟨y, hy⟩ : ∃ y, y = (sw db' R').1 := ⟨_, rfl⟩
      obtain ⟨U, hU⟩ : ∃ U, U = (sw db' R').2 := ⟨_, rfl⟩
      rw [← hy, ← hU] at t1 t2 t3 t4
      rw [← hU] at t5
      clear hy hU
      have hyN : y ≤ N := Nat.le_trans t4.1 s4
      simp only [kD] at hk s1
      simp only [cD] at s2 ⊢
      obtain ⟨t, ht⟩ := kD_div N y U t3.2 hyN
      have hpx : 0 < 2 ^ (N - x) := Nat.pow_pos (by decide)
      have hNy : 2 ^ N = 2 ^ (N - y) * 2 ^ y := by rw [← Nat.pow_add, show N - y + y = N by omega]
      have hsum : 2 ^ (N - x) + (2 ^ (N - y) + kD N U) ≤ 2 ^ N := by omega
      have hlt : 2 ^ (N - y) * (1 + t) < 2 ^ (N - y) * 2 ^ y := by
        rw [← hNy, Nat.mul_add, Nat.mul_one, ← ht]
        omega
      have hty : 1 + t < 2 ^ y := Nat.lt_of_mul_lt_mul_left hlt
      have hy1 : 1 ≤ y := by
        refine Classical.byContradiction fun hc => ?_
        have e : y = 0 := by omega
        rw [e] at hty
        simp at hty
      have hfit : 2 * 2 ^ (N - y) + kD N U ≤ 2 ^ N := by
        have h2 : 2 ^ (N - y) * (1 + t + 1) ≤ 2 ^ (N - y) * 2 ^ y := Nat.mul_le_mul_left _ hty
        rw [← hNy, Nat.mul_add, Nat.mul_add, Nat.mul_one, ← ht] at h2
        omega
      have hk3 : kD N ((a.1 + b.1, y - 1) :: U) ≤ 2 ^ N := by
        rw [kD]
        show 2 ^ (N - (y - 1)) + kD N U ≤ 2 ^ N
        rw [show N - (y - 1) = (N - y) + 1 by omega, Nat.pow_succ]
        omega
      have hm4 : (((a.1 + b.1, y - 1) :: U).map Prod.fst).Perm (((stepP S).1 ++ [(stepP S).2]).map (·.1)) := by
        rw [e1, e2, List.map_append]
        show ((a.1 + b.1) :: U.map Prod.fst).Perm (S2.map (·.1) ++ [a.1 + b.1])
        rw [t5]
        exact (List.Perm.cons _ hm3).trans (List.perm_append_comm (l₁ := [a.1 + b.1]))
      have ih := huff N f ((stepP S).1 ++ [(stepP S).2]) ((a.1 + b.1, y - 1) :: U) (by omega) (fun z hz => by
        rcases List.mem_append.1 hz with e | e
        · rw [e1] at e; exact h02 z e
        · rw [List.mem_singleton.1 e, e2]; exact Int.add_nonneg ha0 hb0) hm4 (fun z hz => by
        rcases List.mem_cons.1 hz with e | e
        · subst e; show y - 1 ≤ N; omega
        · have := t3.2 z e; omega) hk3
      rw [cD] at ih
      have hw : (stepP S).2.1 = a.1 + b.1 := by rw [e2]; rfl
      rw [hw]
      have hc : (a.1 + b.1) * ((y - 1 : Nat) : Int) = a.1 * (y : Int) + b.1 * (y : Int) - (a.1 + b.1) := by
        rw [Int.natCast_sub hy1, Int.mul_sub, Int.add_mul]
        show _ - (a.1 + b.1) * 1 = _
        rw [Int.mul_one]
      have hax : a.1 * (y : Int) ≤ a.1 * (x : Int) := Int.mul_le_mul_of_nonneg_left (by have := t4.1; omega) ha0
      simp only [] at ih
      rw [hc] at ih
      omega
    · rw [if_neg h1]
      exact nonneg_cost D hpos
end Go.Proofs.Ytmdmolofiblbmaa

/- Plain: what the best codes cost, by the merges of their trees. -/
namespace Go.Proofs.Ytmdmolofiblbmaa
open Go.RowKit
set_option linter.unusedVariables false

/-- The weight of a symbol; none of the one that is kept free. -/
def wt (fs : List Int) (s : Int) : Int := if s = 256 then 0 else fs.getD s.toNat 0
def cS (g : Int → Int) : List Int → Int
  | [] => 0
  | x :: xs => g x + cS g xs
theorem cS_append (g : Int → Int) : ∀ a b, cS g (a ++ b) = cS g a + cS g b
  | [], b => by simp [cS]
  | x :: a, b => by rw [List.cons_append, cS, cS, cS_append g a b, Int.add_assoc]
theorem cS_perm (g : Int → Int) {a b : List Int} (h : a.Perm b) : cS g a = cS g b := by
  induction h with
  | nil => rfl
  | cons x _ ih => rw [cS, cS, ih]
  | swap x y l => simp only [cS]; omega
  | trans _ _ h1 h2 => rw [h1, h2]
theorem cS_congr {f g : Int → Int} : ∀ {a : List Int}, (∀ x ∈ a, f x = g x) → cS f a = cS g a
  | [], _ => rfl
  | x :: a, h => by rw [cS, cS, h x (List.mem_cons_self ..), cS_congr (fun y hy => h y (List.mem_cons_of_mem _ hy))]
theorem cS_add {f g h : Int → Int} : ∀ {a : List Int}, (∀ x ∈ a, f x = g x + h x) → cS f a = cS g a + cS h a
  | [], _ => rfl
  | x :: a, e => by
    rw [cS, cS, cS, e x (List.mem_cons_self ..), cS_add (fun y hy => e y (List.mem_cons_of_mem _ hy))]
    omega
theorem run_cost (fs : List Int) (n : Nat) (hn : n ≤ 257) : ∀ (f : Nat) (S : List PT) (l : List Int), KI n S l → (∀ x ∈ S, x.1 = cS (wt fs) x.2.2) → cS (fun s => wt fs s * (runP f S l).getD s.toNat 0) (allS S) = cS (fun s => wt fs s * l.getD s.toNat 0) (allS S) + hP f S
  | 0, S, l, h, hw => by rw [runP, hP, Int.add_zero]
  | f + 1, S, l, h, hw => by
    rw [runP, hP]
    split
    · rename_i h1
      obtain ⟨k1, k2⟩ := h.step h1 hn
      obtain ⟨a, b, S2, q, la, lb, e1, e2⟩ := two_least h1
      have ha := hw a (q.mem_iff.2 (List.mem_cons_self ..))
      have hb := hw b (q.mem_iff.2 (List.mem_cons_of_mem _ (List.mem_cons_self ..)))
      have hm : (stepP S).2.1 = cS (wt fs) (stepP S).2.2.2 := by
        rw [e2]
        show a.1 + b.1 = cS (wt fs) (a.2.2 ++ b.2.2)
        rw [cS_append, ha, hb]
      have ih := run_cost fs n hn f _ _ k1 (fun x hx => by
        rcases List.mem_append.1 hx with e | e
        · rw [e1] at e
          exact hw x (q.mem_iff.2 (List.mem_cons_of_mem _ (List.mem_cons_of_mem _ e)))
        · rw [List.mem_singleton.1 e]
          exact hm)
      rw [cS_perm _ k2, cS_perm _ k2] at ih
      rw [ih, ← cS_perm _ k2, ← cS_perm _ k2]
      have hnd := k2.nodup_iff.2 h.nd
      have hbd : ∀ s ∈ allS ((stepP S).1 ++ [(stepP S).2]), 0 ≤ s ∧ s ≤ 256 := fun s hs => h.bd s (k2.mem_iff.1 hs)
      have hall : allS ((stepP S).1 ++ [(stepP S).2]) = allS (stepP S).1 ++ (stepP S).2.2.2 := by
        rw [allS_append]
        show _ ++ ((stepP S).2.2.2 ++ []) = _
        rw [List.append_nil]
      rw [hall] at hnd hbd ⊢
      generalize (stepP S).2.2.2 = m at *
      generalize allS (stepP S).1 = A at *
      have hd := List.nodup_append.1 hnd
      have hbump : ∀ s, 0 ≤ s → s ≤ 256 → (bumpTo l m m.length).getD s.toNat 0 = l.getD s.toNat 0 + (if s ∈ m then 1 else 0) := fun s h0 h2 => bump_all hd.2.1 (fun x hx => hbd x (List.mem_append_right _ hx)) h.len s h0 h2
      rw [cS_append, cS_append]
      have c1 : cS (fun s => wt fs s * (bumpTo l m m.length).getD s.toNat 0) A = cS (fun s => wt fs s * l.getD s.toNat 0) A := cS_congr (fun s hs => by
        have hb2 := hbd s (List.mem_append_left _ hs)
        show wt fs s * (bumpTo l m m.length).getD s.toNat 0 = _
        rw [hbump s hb2.1 hb2.2, if_neg (fun hc => hd.2.2 s hs s hc rfl), Int.add_zero])
      have c2 : cS (fun s => wt fs s * (bumpTo l m m.length).getD s.toNat 0) m = cS (fun s => wt fs s * l.getD s.toNat 0) m + cS (wt fs) m := cS_add (fun s hs => by
        have hb2 := hbd s (List.mem_append_right _ hs)
        show wt fs s * (bumpTo l m m.length).getD s.toNat 0 = _
        rw [hbump s hb2.1 hb2.2, if_pos hs, Int.mul_add, Int.mul_one])
      rw [c1, c2, hm]
      omega
    · omega
theorem best_cost (fs : List Int) : cS (fun s => wt fs s * (lensP fs).getD s.toNat 0) (posS fs 256 ++ [256]) = hP 257 (initP fs 256 ++ [(0, 256, [256])]) := by
  have hp := posS_lt fs 256
  have hall : allS (initP fs 256 ++ [(0, 256, [256])]) = posS fs 256 ++ [256] := by
    rw [allS_append, allS_init]
    rfl
  have hz : ∀ s, z257.getD s 0 = 0 := z257_at
  have hlen := initP_len fs 256
  have hki : KI 257 (initP fs 256 ++ [(0, 256, [256])]) z257 := by
    refine ⟨?_, fun s hs => ?_, z257_len, fun s hs => ?_, fun x hx => ?_⟩
    · rw [hall, List.nodup_append]
      refine ⟨hp.1, by simp, fun a ha b hb e => ?_⟩
      rw [List.mem_singleton.1 hb] at e
      have := (hp.2 a ha).2.1
      omega
    · rw [hall] at hs
      rcases List.mem_append.1 hs with h | h
      · have := hp.2 s h; omega
      · rw [List.mem_singleton.1 h]; decide
    · rw [hz]
      have : (initP fs 256 ++ ([(0, 256, [256])] : List PT)).length ≤ 257 := by rw [List.length_append]; simp; omega
      omega
    · have h1 : ∀ s, kS (kw z257) [s] = 2 ^ 256 := fun s => by
        show kw z257 s + 0 = _
        unfold kw
        rw [hz]
        rfl
      rcases List.mem_append.1 hx with h | h
      · obtain ⟨t, _, _, rfl⟩ := initP_inv fs 256 x h
        exact h1 _
      · rw [List.mem_singleton.1 h]
        exact h1 _
  have hr := run_cost fs 257 (by decide) 257 _ z257 hki (fun x hx => by
    rcases List.mem_append.1 hx with h | h
    · obtain ⟨t, ht, _, rfl⟩ := initP_inv fs 256 x h
      show fs.getD t 0 = wt fs (t : Int) + 0
      unfold wt
      rw [if_neg (by omega), Int.toNat_natCast, Int.add_zero]
    · rw [List.mem_singleton.1 h]
      rfl)
  have e : runP 257 (initP fs 256 ++ [(0, 256, [256])]) z257 = lensP fs := rfl
  rw [e, hall] at hr
  have h0 : cS (fun s => wt fs s * z257.getD s.toNat 0) (posS fs 256 ++ [256]) = cS (fun _ => 0) (posS fs 256 ++ [256]) := cS_congr (fun s _ => by
    show wt fs s * z257.getD s.toNat 0 = 0
    rw [hz, Int.mul_zero])
  have h1 : ∀ L : List Int, cS (fun _ => 0) L = 0 := fun L => by
    induction L with
    | nil => rfl
    | cons x L ih => rw [cS, ih]; rfl
  rw [hr, h0, h1, Int.zero_add]
end Go.Proofs.Ytmdmolofiblbmaa

/- Plain: the best codes cost no more than others, unless they are those of eight bits. -/
namespace Go.Proofs.Ytmdmolofiblbmaa
open Go.RowKit
set_option linter.unusedVariables false

theorem cntsTo_at (L : List Int) (i : Nat) (h : i < 16) : (cntsTo L 16).getD i 0 = ((pickTo L ((i : Int) + 1) 256).length : Int) := cntsTo_get L 16 i h
theorem rowKeys_fst (cs : List Int) (i : Nat) : ∀ k, ∀ x ∈ rowKeys cs i k, x.1 = i + 1
  | 0, x, hx => by cases hx
  | k + 1, x, hx => by
    rw [rowKeys] at hx
    rcases List.mem_append.1 hx with h | h
    · exact rowKeys_fst cs i k x h
    · rw [List.mem_singleton.1 h]
theorem getD_mem {α : Type} (l : List α) (d : α) (p : Nat) (h : p < l.length) : l.getD p d ∈ l := by
  rw [show l.getD p d = l[p] by simp [List.getD, h]]
  exact List.getElem_mem h
theorem getD_left {α : Type} (a b : List α) (d : α) (p : Nat) (h : p < a.length) : (a ++ b).getD p d = a.getD p d := by
  simp only [List.getD, List.getElem?_append_left h]
theorem getD_right {α : Type} (a b : List α) (d : α) (p : Nat) (h : a.length ≤ p) : (a ++ b).getD p d = b.getD (p - a.length) d := by
  simp only [List.getD, List.getElem?_append_right h]
/-- The keys of codes of lengths: as many as symbols, each as long as its symbol's length. -/
theorem keys_syms (L : List Int) : ∀ i, i ≤ 16 → (keysTo (cntsTo L 16) i).length = (symsTo L i).length ∧ ∀ p, p < (symsTo L i).length → (((keysTo (cntsTo L 16) i).getD p (0, 0)).1 : Int) = L.getD ((symsTo L i).getD p 0).toNat 0
  | 0, _ => ⟨rfl, fun p hp => absurd hp (by simp [symsTo])⟩
  | i + 1, hi => by
    obtain ⟨h1, h2⟩ := keys_syms L i (by omega)
    have hc := cntsTo_at L i (by omega)
    have hn : ((cntsTo L 16).getD i 0).toNat = (pickTo L ((i : Int) + 1) 256).length := by rw [hc, Int.toNat_natCast]
    have hr := rowKeys_length (cntsTo L 16) i ((cntsTo L 16).getD i 0).toNat
    rw [keysTo, symsTo]
    refine ⟨by rw [List.length_append, List.length_append, hr, hn, h1], fun p hp => ?_⟩
    rw [List.length_append] at hp
    by_cases e : p < (symsTo L i).length
    · rw [getD_left _ _ _ _ (by omega), getD_left _ _ _ _ e]
      exact h2 p e
    · rw [getD_right _ _ _ _ (by omega), getD_right _ _ _ _ (by omega), h1]
      have m1 := getD_mem (rowKeys (cntsTo L 16) i ((cntsTo L 16).getD i 0).toNat) (0, 0) (p - (symsTo L i).length) (by omega)
      have m2 := getD_mem (pickTo L ((i : Int) + 1) 256) 0 (p - (symsTo L i).length) (by omega)
      rw [rowKeys_fst _ _ _ _ m1, ((pickTo_mem L ((i : Int) + 1) 256).2 _ m2).2.2]
      rfl
theorem pickTo_in (L : List Int) (l : Int) (j : Nat) (h : L.getD j 0 = l) : ∀ k, j < k → (j : Int) ∈ pickTo L l k
  | k + 1, hk => by
    rw [pickTo]
    by_cases e : j = k
    · subst e
      rw [if_pos h]
      exact List.mem_append_right _ (List.mem_singleton.2 rfl)
    · have := pickTo_in L l j h k (by omega)
      split
      · exact List.mem_append_left _ this
      · exact this
theorem symsTo_in (L : List Int) (j : Nat) (hj : j < 256) : ∀ i : Nat, 1 ≤ L.getD j 0 → L.getD j 0 ≤ (i : Int) → (j : Int) ∈ symsTo L i
  | 0, h1, h2 => by omega
  | i + 1, h1, h2 => by
    rw [symsTo]
    by_cases e : L.getD j 0 = (i : Int) + 1
    · exact List.mem_append_right _ (pickTo_in L _ j e 256 hj)
    · exact List.mem_append_left _ (symsTo_in L j hj i h1 (by omega))
theorem go_found (ss : List Int) (K : List (Nat × Int)) (j : Nat) : ∀ n, (∃ p, p < n ∧ (j : Int) = ss.getD p 0) → ∃ t, t < n ∧ (j : Int) = ss.getD t 0 ∧ bookTo.go ss K n j = K.getD t (0, 0)
  | 0, h => by obtain ⟨p, hp, _⟩ := h; omega
  | n + 1, h => by
    rw [bookTo.go]
    by_cases e : (j : Int) = ss.getD n 0
    · rw [if_pos e]
      exact ⟨n, by omega, e, rfl⟩
    · rw [if_neg e]
      obtain ⟨p, hp, hq⟩ := h
      have hpn : p < n := by
        refine Classical.byContradiction fun hc => e ?_
        rw [show n = p by omega]
        exact hq
      obtain ⟨t, h1, h2, h3⟩ := go_found ss K j n ⟨p, hpn, hq⟩
      exact ⟨t, by omega, h2, h3⟩
/-- The length of the code of a symbol that has one. -/
theorem lenOf_at (L : List Int) (j : Nat) (hj : j < 256) (h1 : 1 ≤ L.getD j 0) (h2 : L.getD j 0 ≤ 16) : (lenOf (cntsTo L 16) (symsTo L 16) j : Int) = L.getD j 0 := by
  have hm := symsTo_in L j hj 16 h1 h2
  obtain ⟨p, hp, hq⟩ := List.mem_iff_getElem.1 hm
  obtain ⟨k1, k2⟩ := keys_syms L 16 (Nat.le_refl _)
  obtain ⟨t, t1, t2, t3⟩ := go_found (symsTo L 16) (keysTo (cntsTo L 16) 16) j (keysTo (cntsTo L 16) 16).length ⟨p, by omega, by simp [List.getD, hp, hq]⟩
  have h := k2 t (by omega)
  unfold lenOf
  show (((bookTo.go (symsTo L 16) (keysTo (cntsTo L 16) 16) (keysTo (cntsTo L 16) 16).length j).1 : Nat) : Int) = _
  rw [t3, h, ← t2, Int.toNat_natCast]

/-- Sums over places. -/
def sg (T : Nat → Nat) : Nat → Nat
  | 0 => 0
  | k + 1 => sg T k + T k
theorem sg_le {A B : Nat → Nat} (c : Int) (t : Nat) (h : ∀ j, A j ≤ B j + (if (j : Int) = c then t else 0)) : ∀ k, sg A k ≤ sg B k + (if 0 ≤ c ∧ c < (k : Int) then t else 0)
  | 0 => by simp [sg]
  | k + 1 => by
    have ih := sg_le c t h k
    have hk := h k
    simp only [sg]
    by_cases e : (k : Int) = c
    · rw [if_pos e] at hk
      rw [if_neg (by omega)] at ih
      rw [if_pos (by omega)]
      omega
    · rw [if_neg e] at hk
      by_cases e2 : 0 ≤ c ∧ c < (k : Int)
      · rw [if_pos e2] at ih
        rw [if_pos (by omega)]
        omega
      · rw [if_neg e2] at ih
        rw [if_neg (by omega)]
        omega
def pw (n : Nat) : Nat := if n = 0 then 0 else 2 ^ (16 - n)
theorem sg_go (ss : List Int) (K : List (Nat × Int)) : ∀ n, sg (fun j => pw (bookTo.go ss K n j).1) 256 ≤ sg (fun p => pw (K.getD p (0, 0)).1) n
  | 0 => by
    have : ∀ k, sg (fun j => pw (bookTo.go ss K 0 j).1) k = 0 := fun k => by
      induction k with
      | zero => rfl
      | succ k ih => rw [sg, ih]; rfl
    rw [this]
    exact Nat.zero_le _
  | n + 1 => by
    have ih := sg_go ss K n
    have h := sg_le (A := fun j => pw (bookTo.go ss K (n + 1) j).1) (B := fun j => pw (bookTo.go ss K n j).1) (ss.getD n 0) (pw (K.getD n (0, 0)).1) (fun j => by
      show pw (bookTo.go ss K (n + 1) j).1 ≤ _
      rw [bookTo.go]
      by_cases e : (j : Int) = ss.getD n 0
      · rw [if_pos e, if_pos e]
        omega
      · rw [if_neg e, if_neg e]
        exact Nat.le_refl _) 256
    show sg (fun j => pw (bookTo.go ss K (n + 1) j).1) 256 ≤ sg (fun p => pw (K.getD p (0, 0)).1) n + pw (K.getD n (0, 0)).1
    have h2 : (if 0 ≤ ss.getD n 0 ∧ ss.getD n 0 < ((256 : Nat) : Int) then pw (K.getD n (0, 0)).1 else 0) ≤ pw (K.getD n (0, 0)).1 := by
      split
      · exact Nat.le_refl _
      · exact Nat.zero_le _
    omega
def kk : List (Nat × Int) → Nat
  | [] => 0
  | x :: K => pw x.1 + kk K
theorem kk_append : ∀ A B, kk (A ++ B) = kk A + kk B
  | [], B => by simp [kk]
  | x :: A, B => by rw [List.cons_append, kk, kk, kk_append A B, Nat.add_assoc]
theorem sg_kk (K : List (Nat × Int)) : ∀ n, n ≤ K.length → sg (fun p => pw (K.getD p (0, 0)).1) n = kk (K.take n)
  | 0, _ => by simp [sg, kk]
  | n + 1, h => by
    have ht : K.take (n + 1) = K.take n ++ [K.getD n (0, 0)] := by
      rw [List.take_add_one]
      simp [List.getD, show n < K.length by omega]
    rw [sg, sg_kk K n (by omega), ht, kk_append]
    rfl
theorem kk_row (cs : List Int) (i : Nat) (hi : i < 16) : ∀ c, kk (rowKeys cs i c) = c * 2 ^ (15 - i)
  | 0 => by simp [rowKeys, kk]
  | c + 1 => by
    rw [rowKeys, kk_append, kk_row cs i hi c]
    show c * 2 ^ (15 - i) + (pw (i + 1) + 0) = _
    unfold pw
    rw [if_neg (by omega), Nat.add_mul, show 16 - (i + 1) = 15 - i by omega]
    omega
theorem kk_keys (cs : List Int) (hok : okTo cs 16 = true) : ∀ i, i ≤ 16 → ((kk (keysTo cs i) : Nat) : Int) = room cs i
  | 0, _ => rfl
  | i + 1, hi => by
    have hc := okTo_at cs 16 hok i (by omega)
    rw [keysTo, kk_append, room, kk_row cs i (by omega), Int.natCast_add, kk_keys cs hok i (by omega), Int.natCast_mul, show ((((cs.getD i 0).toNat : Nat) : Int)) = cs.getD i 0 by omega, Int.natCast_pow]
    rfl
/-- The codes of all symbols fit, and one more of sixteen bits. -/
theorem fits (cs ss : List Int) (h : rightC cs ss = true) : sg (fun j => pw (lenOf cs ss j)) 256 + 1 ≤ 2 ^ 16 := by
  obtain ⟨⟨hl, hok, ht, hroom⟩, htold, hap⟩ := (right_iff cs ss).1 h
  have h1 := sg_go ss (keysTo cs 16) (keysTo cs 16).length
  have h2 := sg_kk (keysTo cs 16) (keysTo cs 16).length (Nat.le_refl _)
  rw [List.take_length] at h2
  have h3 := kk_keys cs hok 16 (Nat.le_refl _)
  have e : sg (fun j => pw (lenOf cs ss j)) 256 = sg (fun j => pw (bookTo.go ss (keysTo cs 16) (keysTo cs 16).length j).1) 256 := rfl
  rw [e]
  have : (2 : Nat) ^ 16 = 65536 := by decide
  rw [this]
  omega

/-- Depths of the trees by other codes. -/
def dep (T : Nat → Nat) (fs : List Int) (k : Nat) : List WD := (posS fs k).map fun s => (fs.getD s.toNat 0, T s.toNat)
def sT (T : Nat → Nat) (fs : List Int) : Nat → Int
  | 0 => 0
  | k + 1 => sT T fs k + fs.getD k 0 * (T k : Int)
theorem sumTo_eq (cs ss fs : List Int) : ∀ k, sumTo cs ss fs k = sT (lenOf cs ss) fs k
  | 0 => rfl
  | k + 1 => by rw [sumTo, sT, sumTo_eq cs ss fs k]
theorem dep_fst (T : Nat → Nat) (fs : List Int) : ∀ k, (dep T fs k).map Prod.fst = (initP fs k).map (·.1)
  | 0 => rfl
  | k + 1 => by
    have ih := dep_fst T fs k
    unfold dep at ih ⊢
    rw [posS, initP]
    split
    · rw [List.map_append, List.map_append, List.map_append, ih]
      rfl
    · exact ih
theorem dep_mem (T : Nat → Nat) (fs : List Int) (k : Nat) : ∀ x ∈ dep T fs k, ∃ s : Nat, s < k ∧ 0 < fs.getD s 0 ∧ x = (fs.getD s 0, T s) := fun x hx => by
  obtain ⟨s, hs, rfl⟩ := List.mem_map.1 hx
  have h := (posS_lt fs k).2 s hs
  exact ⟨s.toNat, by omega, h.2.2, rfl⟩
theorem cD_append : ∀ A B, cD (A ++ B) = cD A + cD B
  | [], B => by simp [cD]
  | x :: A, B => by rw [List.cons_append, cD, cD, cD_append A B, Int.add_assoc]
theorem kD_append (N : Nat) : ∀ A B, kD N (A ++ B) = kD N A + kD N B
  | [], B => by simp [kD]
  | x :: A, B => by rw [List.cons_append, kD, kD, kD_append N A B, Nat.add_assoc]
theorem dep_cost (T : Nat → Nat) (fs : List Int) (hf : ∀ k, k < 256 → 0 ≤ fs.getD k 0 ∧ fs.getD k 0 ≤ 100000) : ∀ k, k ≤ 256 → cD (dep T fs k) = sT T fs k
  | 0, _ => rfl
  | k + 1, hk => by
    have ih := dep_cost T fs hf k (by omega)
    have h0 := hf k (by omega)
    unfold dep at ih ⊢
    rw [posS, sT]
    split
    · rw [List.map_append, cD_append, ih]
      show _ + (fs.getD (k : Int).toNat 0 * (T (k : Int).toNat : Int) + 0) = _
      rw [Int.toNat_natCast, Int.add_zero]
    · rw [ih, show fs.getD k 0 = 0 by omega, Int.zero_mul, Int.add_zero]
theorem lacks_no (cs ss fs : List Int) : ∀ n, lacks cs ss fs n = false → ∀ k, k < n → 0 < fs.getD k 0 → lenOf cs ss k ≠ 0
  | n + 1, h, k, hk, hf => by
    rw [lacks, Bool.or_eq_false_iff] at h
    by_cases e : k = n
    · subst e
      intro h0
      have h2 := h.2
      rw [decide_eq_true hf, decide_eq_true h0] at h2
      cases h2
    · exact lacks_no cs ss fs n h.1 k (by omega) hf
theorem dep_fit (T : Nat → Nat) (fs : List Int) (hl : ∀ k, k < 256 → 0 < fs.getD k 0 → T k ≠ 0) : ∀ k, k ≤ 256 → kD 16 (dep T fs k) ≤ sg (fun j => pw (T j)) k
  | 0, _ => Nat.le_refl _
  | k + 1, hk => by
    have ih := dep_fit T fs hl k (by omega)
    unfold dep at ih ⊢
    rw [posS, sg]
    split
    · rename_i hf
      rw [List.map_append, kD_append]
      have h0 := hl k (by omega) hf
      have e : kD 16 (List.map (fun s : Int => (fs.getD s.toNat 0, T s.toNat)) [(k : Int)]) = 2 ^ (16 - T k) + 0 := by
        rw [List.map_cons, List.map_nil, kD, kD, Int.toNat_natCast]
      have e2 : pw (T k) = 2 ^ (16 - T k) := by unfold pw; rw [if_neg h0]
      rw [e, e2]
      omega
    · omega
/-- What the merges weigh is what no other codes fall below. -/
theorem other_any (T : Nat → Nat) (fs : List Int) (hT : ∀ k, T k ≤ 16) (hfit : sg (fun j => pw (T j)) 256 + 1 ≤ 2 ^ 16) (hf : ∀ k, k < 256 → 0 ≤ fs.getD k 0 ∧ fs.getD k 0 ≤ 100000) (hl : ∀ k, k < 256 → 0 < fs.getD k 0 → T k ≠ 0) : hP 257 (initP fs 256 ++ [(0, 256, [256])]) ≤ sT T fs 256 := by
  have hlen := initP_len fs 256
  have h0 := dep_fit T fs hl 256 (Nat.le_refl _)
  have e1 : kD 16 [((0 : Int), 16)] = 1 := by decide
  have e2 : cD [((0 : Int), 16)] = 0 := by decide
  have hk : kD 16 (dep T fs 256 ++ [(0, 16)]) ≤ 2 ^ 16 := by
    rw [kD_append, e1]
    omega
  have h1 := huff 16 257 (initP fs 256 ++ [(0, 256, [256])]) (dep T fs 256 ++ [(0, 16)]) (by rw [List.length_append]; simp; omega) (fun x hx => by
    rcases List.mem_append.1 hx with e | e
    · obtain ⟨t, _, ht, rfl⟩ := initP_inv fs 256 x e
      exact Int.le_of_lt ht
    · rw [List.mem_singleton.1 e]
      exact Int.le_refl _) (by
    rw [List.map_append, List.map_append, dep_fst]
    exact List.Perm.refl _) (fun x hx => by
    rcases List.mem_append.1 hx with e | e
    · obtain ⟨s, _, _, rfl⟩ := dep_mem T fs 256 x e
      exact hT s
    · rw [List.mem_singleton.1 e]
      exact Nat.le_refl _) hk
  rw [cD_append, dep_cost T fs hf 256 (Nat.le_refl _), e2] at h1
  omega
theorem other_cost (cs ss fs : List Int) (h : rightC cs ss = true) (hf : ∀ k, k < 256 → 0 ≤ fs.getD k 0 ∧ fs.getD k 0 ≤ 100000) (hl : lacks cs ss fs 256 = false) : hP 257 (initP fs 256 ++ [(0, 256, [256])]) ≤ sumTo cs ss fs 256 := by
  rw [sumTo_eq]
  exact other_any _ fs (lenOf_le cs ss h) (fits cs ss h) hf (lacks_no cs ss fs 256 hl)
end Go.Proofs.Ytmdmolofiblbmaa

/- Plain: what the law FnBest says of the best codes. -/
namespace Go.Proofs.Ytmdmolofiblbmaa
open Go.RowKit
set_option linter.unusedVariables false

theorem bC_eq {fs : List Int} (hb : bB fs = true) : bC fs = cntsTo (bestL (lensP fs)) 16 := by unfold bC; rw [if_pos hb]
theorem bS_eq {fs : List Int} (hb : bB fs = true) : bS fs = symsTo (bestL (lensP fs)) 16 := by unfold bS; rw [if_pos hb]
theorem bB_parts {fs : List Int} (hb : bB fs = true) : freqs fs = true ∧ 1 ≤ np fs ∧ np fs ≤ 255 := by
  unfold bB at hb
  rw [Bool.and_eq_true, decide_eq_true_eq] at hb
  exact hb
theorem best_len {fs : List Int} (hb : bB fs = true) (k : Nat) (hk : k < 256) (hf : 0 < fs.getD k 0) : (lenOf (bC fs) (bS fs) k : Int) = (bestL (lensP fs)).getD k 0 ∧ lenOf (bC fs) (bS fs) k ≠ 0 := by
  have hle := bestL_le fs (lensP_len fs) k hk
  have hp := hle.2.2.2 ((lens_pos fs k hk).2 hf)
  rw [bC_eq hb, bS_eq hb]
  have h := lenOf_at (bestL (lensP fs)) k hk (by omega) hle.2.1
  exact ⟨h, by omega⟩
theorem lacks_yes (cs ss fs : List Int) : ∀ n, (∀ k, k < n → 0 < fs.getD k 0 → lenOf cs ss k ≠ 0) → lacks cs ss fs n = false
  | 0, _ => rfl
  | n + 1, h => by
    rw [lacks, lacks_yes cs ss fs n (fun k hk => h k (by omega)), Bool.false_or]
    by_cases hf : 0 < fs.getD n 0
    · rw [decide_eq_false (h n (by omega) hf), Bool.and_false]
    · rw [decide_eq_false hf, Bool.false_and]
theorem sT_pos (T : Nat → Nat) (fs : List Int) (hf : ∀ k, k < 256 → 0 ≤ fs.getD k 0 ∧ fs.getD k 0 ≤ 100000) : ∀ k, k ≤ 256 → 0 ≤ sT T fs k ∧ ((∃ t, t < k ∧ 0 < fs.getD t 0 ∧ T t ≠ 0) → 0 < sT T fs k)
  | 0, _ => ⟨Int.le_refl _, fun ⟨t, h, _⟩ => by omega⟩
  | k + 1, hk => by
    obtain ⟨h1, h2⟩ := sT_pos T fs hf k (by omega)
    have h0 := hf k (by omega)
    have hm : 0 ≤ fs.getD k 0 * (T k : Int) := Int.mul_nonneg h0.1 (by omega)
    rw [sT]
    refine ⟨by omega, fun ⟨t, ht, hft, hT⟩ => ?_⟩
    by_cases e : t = k
    · subst e
      have : 0 < fs.getD t 0 * (T t : Int) := Int.mul_pos hft (by omega)
      omega
    · have := h2 ⟨t, by omega, hft, hT⟩
      omega
theorem sT_cS (T : Nat → Nat) (fs L : List Int) (hf : ∀ k, k < 256 → 0 ≤ fs.getD k 0 ∧ fs.getD k 0 ≤ 100000) (hT : ∀ k, k < 256 → 0 < fs.getD k 0 → (T k : Int) = L.getD k 0) : ∀ k, k ≤ 256 → cS (fun s => wt fs s * L.getD s.toNat 0) (posS fs k) = sT T fs k
  | 0, _ => rfl
  | k + 1, hk => by
    have ih := sT_cS T fs L hf hT k (by omega)
    have h0 := hf k (by omega)
    rw [posS, sT]
    split
    · rename_i hp
      rw [cS_append, ih]
      have e : cS (fun s => wt fs s * L.getD s.toNat 0) [(k : Int)] = fs.getD k 0 * L.getD k 0 + 0 := by
        rw [cS, cS]
        show wt fs (k : Int) * L.getD (k : Int).toNat 0 + 0 = _
        unfold wt
        rw [if_neg (by omega), Int.toNat_natCast]
      rw [e, hT k (by omega) hp, Int.add_zero]
    · rw [ih, show fs.getD k 0 = 0 by omega, Int.zero_mul, Int.add_zero]
/-- Where no length is above sixteen, the best codes cost what the merges weigh. -/
theorem best_merges {fs : List Int} (hb : bB fs = true) (hd : ¬ 16 < maxTo (lensP fs) 255) : sumTo (bC fs) (bS fs) fs 256 = hP 257 (initP fs 256 ++ [(0, 256, [256])]) := by
  have hf := (freqs_at (bB_parts hb).1).2
  have hL : bestL (lensP fs) = lensP fs := by unfold bestL; rw [if_neg hd]
  rw [sumTo_eq, ← best_cost, cS_append, sT_cS (lenOf (bC fs) (bS fs)) fs (lensP fs) hf (fun k hk hp => by
    rw [(best_len hb k hk hp).1, hL]) 256 (Nat.le_refl _)]
  have e : cS (fun s => wt fs s * (lensP fs).getD s.toNat 0) [256] = 0 := by
    rw [cS, cS]
    show wt fs 256 * _ + 0 = 0
    unfold wt
    rw [if_pos rfl, Int.zero_mul]
    rfl
  rw [e, Int.add_zero]
theorem pick_none (L : List Int) (l : Int) (h : ∀ s, s < 256 → L.getD s 0 ≠ l) : pickTo L l 256 = [] := by
  cases hp : pickTo L l 256 with
  | nil => rfl
  | cons x xs =>
    have h1 := (pickTo_mem L l 256).2 x (by rw [hp]; exact List.mem_cons_self ..)
    exact absurd h1.2.2 (h x.toNat (by omega))
/-- Codes of eight bits alone. -/
theorem even_flat (L : List Int) (h : ∀ s, s < 256 → L.getD s 0 = 0 ∨ L.getD s 0 = 8) : ∀ i, i ≤ 16 → (symsTo L i).length = if 8 ≤ i then (pickTo L 8 256).length else 0
  | 0, _ => rfl
  | i + 1, hi => by
    have ih := even_flat L h i (by omega)
    rw [symsTo, List.length_append, ih]
    by_cases e : i = 7
    · subst e
      rw [if_neg (by omega), if_pos (by omega)]
      show 0 + (pickTo L 8 256).length = _
      omega
    · rw [pick_none L ((i : Int) + 1) (fun s hs => by have := h s hs; omega)]
      by_cases e2 : 8 ≤ i
      · rw [if_pos e2, if_pos (by omega)]
        rfl
      · rw [if_neg e2, if_neg (by omega)]
        rfl
theorem deep_flat {fs : List Int} (hb : bB fs = true) (hd : 16 < maxTo (lensP fs) 255) : (bC fs).getD 7 0 = ((bS fs).length : Int) := by
  have hl : (lensP fs).length = 257 := lensP_len fs
  have hL : bestL (lensP fs) = evenTo (lensP fs) 256 := by unfold bestL; rw [if_pos hd]
  rw [bC_eq hb, bS_eq hb, hL, cntsTo_at _ 7 (by omega), even_flat _ (fun s hs => ?_) 16 (Nat.le_refl _), if_pos (by omega)]
  · rfl
  · have h0 := (best_kraft fs).2 s hs
    rw [even_at _ _ (by omega)]
    split
    · exact .inr rfl
    · omega
/-- What the law says. -/
theorem best_law {fs : List Int} (hb : bB fs = true) (cs ss : List Int) : 0 < spentR (bC fs) (bS fs) fs ∧ (spentR cs ss fs < 0 ∨ (bC fs).getD 7 0 = ((bS fs).length : Int) ∨ spentR (bC fs) (bS fs) fs ≤ spentR cs ss fs) := by
  obtain ⟨hfr, hn1, hn2⟩ := bB_parts hb
  have hf := (freqs_at hfr).2
  have hla := lacks_yes (bC fs) (bS fs) fs 256 (fun k hk hp => (best_len hb k hk hp).2)
  have hm : spentR (bC fs) (bS fs) fs = sumTo (bC fs) (bS fs) fs 256 := by
    unfold spentR
    rw [if_pos ⟨best_right fs hb, hfr⟩, hla]
    rfl
  refine ⟨?_, ?_⟩
  · rw [hm, sumTo_eq]
    refine (sT_pos _ fs hf 256 (Nat.le_refl _)).2 ?_
    have hne : initP fs 256 ≠ [] := fun e => by
      unfold np at hn1
      rw [e] at hn1
      exact absurd hn1 (by decide)
    obtain ⟨x, hx⟩ := List.exists_mem_of_ne_nil _ hne
    obtain ⟨t, ht, hp, _⟩ := initP_inv fs 256 x hx
    exact ⟨t, ht, hp, (best_len hb t ht hp).2⟩
  · by_cases hd : 16 < maxTo (lensP fs) 255
    · exact .inr (.inl (deep_flat hb hd))
    · by_cases hr : rightC cs ss = true
      · cases hl : lacks cs ss fs 256 with
        | true =>
          refine .inl ?_
          unfold spentR
          rw [if_pos ⟨hr, hfr⟩, if_pos hl]
          decide
        | false =>
          refine .inr (.inr ?_)
          have e : spentR cs ss fs = sumTo cs ss fs 256 := by
            unfold spentR
            rw [if_pos ⟨hr, hfr⟩, hl]
            rfl
          rw [hm, e, best_merges hb hd]
          exact other_cost cs ss fs hr hf hl
      · refine .inl ?_
        unfold spentR
        rw [if_neg (fun h => hr h.1)]
        decide
end Go.Proofs.Ytmdmolofiblbmaa
