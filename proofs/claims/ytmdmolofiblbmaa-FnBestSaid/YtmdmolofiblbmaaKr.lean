/- Plain: the lengths of the best codes leave room, so that their codes are right. -/
import Derived.Test.YtmdmolofiblbmaaBq
import Derived.Test.YtmdmolofiblbmaaOkBoth
namespace Go.Proofs.Ytmdmolofiblbmaa
open Go.RowKit
set_option linter.unusedVariables false

/-- The sum of g over symbols. -/
def kS (g : Int → Nat) : List Int → Nat
  | [] => 0
  | x :: xs => g x + kS g xs
theorem kS_append (g : Int → Nat) : ∀ a b, kS g (a ++ b) = kS g a + kS g b
  | [], b => by simp [kS]
  | x :: a, b => by rw [List.cons_append, kS, kS, kS_append g a b, Nat.add_assoc]
theorem kS_perm (g : Int → Nat) {a b : List Int} (h : a.Perm b) : kS g a = kS g b := by
  induction h with
  | nil => rfl
  | cons x _ ih => rw [kS, kS, ih]
  | swap x y l => simp only [kS]; omega
  | trans _ _ h1 h2 => rw [h1, h2]
theorem kS_congr {f g : Int → Nat} : ∀ {a : List Int}, (∀ x ∈ a, f x = g x) → kS f a = kS g a
  | [], _ => rfl
  | x :: a, h => by rw [kS, kS, h x (List.mem_cons_self ..), kS_congr (fun y hy => h y (List.mem_cons_of_mem _ hy))]
theorem kS_two {f g : Int → Nat} : ∀ {a : List Int}, (∀ x ∈ a, g x = 2 * f x) → kS g a = 2 * kS f a
  | [], _ => rfl
  | x :: a, h => by rw [kS, kS, h x (List.mem_cons_self ..), kS_two (fun y hy => h y (List.mem_cons_of_mem _ hy)), Nat.mul_add]
/-- What a symbol's code takes of the whole. -/
def kw (l : List Int) (s : Int) : Nat := 2 ^ (256 - (l.getD s.toNat 0).toNat)
/-- All symbols of trees. -/
def allS : List PT → List Int
  | [] => []
  | x :: S => x.2.2 ++ allS S
theorem allS_append : ∀ (A B : List PT), allS (A ++ B) = allS A ++ allS B
  | [], B => rfl
  | x :: A, B => by rw [List.cons_append, allS, allS, allS_append A B, List.append_assoc]
theorem allS_perm {A B : List PT} (h : A.Perm B) : (allS A).Perm (allS B) := by
  induction h with
  | nil => exact List.Perm.refl _
  | cons x _ ih => exact List.Perm.append_left _ ih
  | swap x y l =>
    show (y.2.2 ++ (x.2.2 ++ allS l)).Perm (x.2.2 ++ (y.2.2 ++ allS l))
    rw [← List.append_assoc, ← List.append_assoc]
    exact List.Perm.append_right _ List.perm_append_comm
  | trans _ _ h1 h2 => exact h1.trans h2
theorem allS_mem {x : PT} : ∀ {S : List PT}, x ∈ S → ∀ s ∈ x.2.2, s ∈ allS S
  | y :: S, hx, s, hs => by
    rcases List.mem_cons.1 hx with h | h
    · subst h; exact List.mem_append_left _ hs
    · exact List.mem_append_right _ (allS_mem h s hs)
theorem allS_inv {s : Int} : ∀ {S : List PT}, s ∈ allS S → ∃ x ∈ S, s ∈ x.2.2
  | y :: S, hs => by
    rcases List.mem_append.1 hs with h | h
    · exact ⟨y, List.mem_cons_self .., h⟩
    · obtain ⟨x, h1, h2⟩ := allS_inv h
      exact ⟨x, List.mem_cons_of_mem _ h1, h2⟩
theorem setD_self {l : List Int} {j : Nat} {x : Int} (h : j < l.length) : (l.set j x).getD j 0 = x := by simp [List.getD, h]
/-- A bump of symbols that are all apart: one more for each. -/
theorem bump_one (l syms : List Int) (j : Nat) (hj : j < l.length) (h0 : ∀ s ∈ syms, 0 ≤ s) : ∀ k, k ≤ syms.length → (bumpTo l syms k).getD j 0 = l.getD j 0 + ((syms.take k).count (j : Int) : Nat)
  | 0, _ => by simp [bumpTo]
  | k + 1, hk => by
    have ih := bump_one l syms j hj h0 k (by omega)
    have hm := h0 (syms.getD k 0) (by simp [List.getD, show k < syms.length by omega])
    have ht : syms.take (k + 1) = syms.take k ++ [syms.getD k 0] := by
      rw [List.take_add_one]
      simp [List.getD, show k < syms.length by omega]
    rw [bumpTo, ht, List.count_append]
    by_cases e : syms.getD k 0 = (j : Int)
    · rw [show (syms.getD k 0).toNat = j by omega, setD_self (by rw [bumpTo_len]; exact hj), ih, e, List.count_singleton_self]
      omega
    · rw [getD_set_off _ _ _ _ (by omega), ih, List.count_singleton, if_neg (by simpa using e)]
      omega
/-- What stands of the lengths: no symbol is in two trees, each tree's symbols take the whole. -/
structure KI (n : Nat) (S : List PT) (l : List Int) : Prop where
  nd : (allS S).Nodup
  bd : ∀ s ∈ allS S, 0 ≤ s ∧ s ≤ 256
  len : l.length = 257
  lo : ∀ s ∈ allS S, 0 ≤ l.getD s.toNat 0 ∧ l.getD s.toNat 0 + S.length ≤ n
  sum : ∀ x ∈ S, kS (kw l) x.2.2 = 2 ^ 256
theorem count_one {s : Int} : ∀ {xs : List Int}, xs.Nodup → s ∈ xs → xs.count s = 1
  | x :: xs, hn, hm => by
    rw [List.nodup_cons] at hn
    by_cases e : x = s
    · subst e
      rw [List.count_cons_self, List.count_eq_zero_of_not_mem hn.1]
    · rw [List.count_cons_of_ne e]
      rcases List.mem_cons.1 hm with h | h
      · exact absurd h.symm e
      · exact count_one hn.2 h
theorem bump_all {l syms : List Int} (hn : syms.Nodup) (h0 : ∀ s ∈ syms, 0 ≤ s ∧ s ≤ 256) (hl : l.length = 257) (s : Int) (hs0 : 0 ≤ s) (hs1 : s ≤ 256) : (bumpTo l syms syms.length).getD s.toNat 0 = l.getD s.toNat 0 + (if s ∈ syms then 1 else 0) := by
  have h := bump_one l syms s.toNat (by omega) (fun x hx => (h0 x hx).1) syms.length (Nat.le_refl _)
  rw [List.take_length, show ((s.toNat : Nat) : Int) = s by omega] at h
  rw [h]
  by_cases hm : s ∈ syms
  · rw [if_pos hm, count_one hn hm]
    rfl
  · rw [if_neg hm, List.count_eq_zero_of_not_mem hm]
    rfl
theorem KI.step {n : Nat} {S : List PT} {l : List Int} (h : KI n S l) (h1 : 1 < S.length) (hn : n ≤ 257) : KI n ((stepP S).1 ++ [(stepP S).2]) (bumpTo l (stepP S).2.2.2 (stepP S).2.2.2.length) ∧ (allS ((stepP S).1 ++ [(stepP S).2])).Perm (allS S) := by
  obtain ⟨nd, bd, len, lo, sum⟩ := h
  have hb1 := (least_best (S := S) (by omega)).1
  have p1 := erase_perm hb1
  have l1 : (S.eraseIdx (leastP S)).length = S.length - 1 := by rw [List.length_eraseIdx, if_pos hb1]
  have hb2 := (least_best (S := S.eraseIdx (leastP S)) (by omega)).1
  have p2 := erase_perm hb2
  obtain ⟨m1, m2, e, hc, hlen⟩ := step_two h1
  have e1 : (stepP S).1 = (S.eraseIdx (leastP S)).eraseIdx (leastP (S.eraseIdx (leastP S))) := rfl
  generalize nthP S (leastP S) = a at *
  generalize S.eraseIdx (leastP S) = S1 at *
  generalize nthP S1 (leastP S1) = b at *
  generalize S1.eraseIdx (leastP S1) = S2 at *
  have q : S.Perm (a :: b :: S2) := p1.trans (List.Perm.cons _ p2)
  have qa : (allS S).Perm (a.2.2 ++ (b.2.2 ++ allS S2)) := allS_perm q
  have hall : allS ((stepP S).1 ++ [(stepP S).2]) = allS S2 ++ (a.2.2 ++ b.2.2) := by
    rw [allS_append, e1]
    show allS S2 ++ ((stepP S).2.2.2 ++ []) = _
    rw [e, List.append_nil]
  have hP : (allS ((stepP S).1 ++ [(stepP S).2])).Perm (allS S) := by
    rw [hall]
    refine List.Perm.trans ?_ qa.symm
    rw [← List.append_assoc a.2.2]
    exact List.perm_append_comm
  have nd2 : (a.2.2 ++ (b.2.2 ++ allS S2)).Nodup := qa.nodup_iff.1 nd
  rw [← List.append_assoc] at nd2
  have nab : (a.2.2 ++ b.2.2).Nodup := (List.nodup_append.1 nd2).1
  have hap : ∀ s ∈ allS S2, s ∉ a.2.2 ++ b.2.2 := fun s hs hs2 => (List.nodup_append.1 nd2).2.2 s hs2 s hs rfl
  have hin : ∀ s ∈ a.2.2 ++ b.2.2, s ∈ allS S := fun s hs => qa.mem_iff.2 (by rw [← List.append_assoc]; exact List.mem_append_left _ hs)
  have hin2 : ∀ s ∈ allS S2, s ∈ allS S := fun s hs => qa.mem_iff.2 (by rw [← List.append_assoc]; exact List.mem_append_right _ hs)
  have hba : ∀ s ∈ a.2.2 ++ b.2.2, 0 ≤ s ∧ s ≤ 256 := fun s hs => bd s (hin s hs)
  have hbump : ∀ s, 0 ≤ s → s ≤ 256 → (bumpTo l (a.2.2 ++ b.2.2) (a.2.2 ++ b.2.2).length).getD s.toNat 0 = l.getD s.toNat 0 + (if s ∈ a.2.2 ++ b.2.2 then 1 else 0) := fun s h0 h2 => bump_all nab hba len s h0 h2
  rw [e]
  refine ⟨⟨hP.nodup_iff.2 nd, fun s hs => bd s (hP.mem_iff.1 hs), by rw [bumpTo_len]; exact len, fun s hs => ?_, fun x hx => ?_⟩, hP⟩
  · have hm := hP.mem_iff.1 hs
    have hb := bd s hm
    have hl := lo s hm
    rw [hbump s hb.1 hb.2, hlen]
    split <;> omega
  · rcases List.mem_append.1 hx with h2 | h2
    · rw [e1] at h2
      have hxS : x ∈ S := q.mem_iff.2 (List.mem_cons_of_mem _ (List.mem_cons_of_mem _ h2))
      rw [← sum x hxS]
      refine kS_congr (fun s hs => ?_)
      have hsm := allS_mem h2 s hs
      have hb := bd s (hin2 s hsm)
      unfold kw
      rw [hbump s hb.1 hb.2, if_neg (hap s hsm), Int.add_zero]
    · rw [List.mem_singleton.1 h2, e]
      have t1 := sum a m1
      have t2 := sum b m2
      have hd : kS (kw l) (a.2.2 ++ b.2.2) = 2 * kS (kw (bumpTo l (a.2.2 ++ b.2.2) (a.2.2 ++ b.2.2).length)) (a.2.2 ++ b.2.2) := by
        refine kS_two (fun s hs => ?_)
        have hb := hba s hs
        have hl := lo s (hin s hs)
        unfold kw
        rw [hbump s hb.1 hb.2, if_pos hs]
        have e2 : 256 - (l.getD s.toNat 0).toNat = (256 - (l.getD s.toNat 0 + 1).toNat) + 1 := by omega
        rw [e2, Nat.pow_succ, Nat.mul_comm]
      rw [kS_append, t1, t2] at hd
      omega
theorem run_kraft (n : Nat) (hn : n ≤ 257) : ∀ (f : Nat) (S : List PT) (l : List Int), S.length ≤ f → 1 ≤ S.length → KI n S l → kS (kw (runP f S l)) (allS S) = 2 ^ 256 ∧ ∀ s ∈ allS S, 0 ≤ (runP f S l).getD s.toNat 0
  | 0, S, l, hf, h1, h => by omega
  | f + 1, S, l, hf, h1, h => by
    rw [runP]
    split
    · rename_i h2
      obtain ⟨k1, k2⟩ := h.step h2 hn
      have hl := (step_two h2).2.2.2.2
      have ih := run_kraft n hn f _ _ (by omega) (by omega) k1
      exact ⟨by rw [kS_perm _ k2.symm]; exact ih.1, fun s hs => ih.2 s (k2.mem_iff.2 hs)⟩
    · rename_i h2
      obtain ⟨x, rfl⟩ : ∃ x, S = [x] := by
        cases S with
        | nil => simp at h1
        | cons x T =>
          cases T with
          | nil => exact ⟨x, rfl⟩
          | cons y U => simp at h2
      have hx := h.sum x (List.mem_singleton.2 rfl)
      refine ⟨?_, fun s hs => (h.lo s hs).1⟩
      show kS (kw l) (x.2.2 ++ []) = _
      rw [List.append_nil]
      exact hx
/-- The symbols that stand somewhere, below k. -/
def posS (fs : List Int) : Nat → List Int
  | 0 => []
  | k + 1 => if 0 < fs.getD k 0 then posS fs k ++ [(k : Int)] else posS fs k
theorem posS_lt (fs : List Int) : ∀ k, (posS fs k).Nodup ∧ ∀ s ∈ posS fs k, 0 ≤ s ∧ s < k ∧ 0 < fs.getD s.toNat 0
  | 0 => ⟨by simp [posS], fun s hs => by cases hs⟩
  | k + 1 => by
    obtain ⟨h1, h2⟩ := posS_lt fs k
    rw [posS]
    split
    · rename_i hf
      refine ⟨?_, fun s hs => ?_⟩
      · rw [List.nodup_append]
        refine ⟨h1, by simp, fun a ha b hb e => ?_⟩
        rw [List.mem_singleton.1 hb] at e
        have := h2 a ha
        omega
      · rcases List.mem_append.1 hs with h | h
        · have := h2 s h
          exact ⟨this.1, by omega, this.2.2⟩
        · rw [List.mem_singleton.1 h]
          exact ⟨by omega, by omega, by simpa using hf⟩
    · exact ⟨h1, fun s hs => by have := h2 s hs; exact ⟨this.1, by omega, this.2.2⟩⟩
theorem allS_init (fs : List Int) : ∀ k, allS (initP fs k) = posS fs k
  | 0 => rfl
  | k + 1 => by
    rw [initP, posS]
    split
    · rw [allS_append, allS_init fs k]
      rfl
    · exact allS_init fs k
theorem best_kraft (fs : List Int) : kS (kw (lensP fs)) (posS fs 256) + kw (lensP fs) 256 = 2 ^ 256 ∧ ∀ s, s < 256 → 0 ≤ (lensP fs).getD s 0 := by
  have hp := posS_lt fs 256
  have hall : allS (initP fs 256 ++ [(0, 256, [256])]) = posS fs 256 ++ [256] := by
    rw [allS_append, allS_init]
    rfl
  have hz : ∀ s, z257.getD s 0 = 0 := z257_at
  have hlen := initP_len fs 256
  have hl2 : (initP fs 256 ++ ([(0, 256, [256])] : List PT)).length ≤ 257 := by rw [List.length_append]; simp; omega
  have hki : KI 257 (initP fs 256 ++ [(0, 256, [256])]) z257 := by
    refine ⟨?_, fun s hs => ?_, z257_len, fun s hs => ?_, fun x hx => ?_⟩
    · rw [hall, List.nodup_append]
      refine ⟨hp.1, by simp, fun a ha b hb e => ?_⟩
      rw [List.mem_singleton.1 hb] at e
      have := (hp.2 a ha).2.1
      omega
    · rw [hall] at hs
      rcases List.mem_append.1 hs with h | h
      · have := hp.2 s h; omega
      · rw [List.mem_singleton.1 h]; decide
    · rw [hz]
      omega
    · have h1 : ∀ s, kS (kw z257) [s] = 2 ^ 256 := fun s => by
        show kw z257 s + 0 = _
        unfold kw
        rw [hz]
        rfl
      rcases List.mem_append.1 hx with h | h
      · obtain ⟨t, _, _, rfl⟩ := initP_inv fs 256 x h
        exact h1 _
      · rw [List.mem_singleton.1 h]
        exact h1 _
  have hr := run_kraft 257 (by decide) 257 _ z257 hl2 (by rw [List.length_append]; simp) hki
  have e : runP 257 (initP fs 256 ++ [(0, 256, [256])]) z257 = lensP fs := rfl
  rw [e, hall] at hr
  refine ⟨?_, fun s hs => ?_⟩
  · have h := hr.1
    rw [kS_append] at h
    exact h
  · by_cases hf : 0 < fs.getD s 0
    · have := (lens_pos fs s hs).2 hf
      omega
    · have h1 := run_off s 257 (initP fs 256 ++ [(0, 256, [256])]) z257 (fun x hx y hy => by
        have hm := allS_mem hx y hy
        rw [hall] at hm
        rcases List.mem_append.1 hm with h | h
        · have h2 := hp.2 y h
          refine ⟨h2.1, fun e => ?_⟩
          rw [e] at h2
          exact hf (by simpa using h2.2.2)
        · rw [List.mem_singleton.1 h]
          exact ⟨by decide, by omega⟩)
      rw [e, hz] at h1
      rw [h1]
      exact Int.le_refl _
end Go.Proofs.Ytmdmolofiblbmaa
