/- Texts joined: Hp, Hm, Hd. No statement is proved here. -/
import Derived.Test.YtnnakmgngkpghaaGreatBta
import Derived.Deep.QuietTactic
import Derived.BigQuiet
import Derived.Deep.RegionHeld3
import Derived.Deep.CutRange

/- Plain: a heap as container/heap makes it (init, up, down, push, pop), and that its run is the run of the list. -/
namespace Go.Proofs.YtnnakmgngkpghaaGreat
open Go.RowKit
set_option linter.unusedVariables false

/-- No worse a key. -/
def kle (x y : PT) : Prop := x.1 < y.1 ∨ (x.1 = y.1 ∧ x.2.1 ≤ y.2.1)
theorem bet_iff (x y : PT) : betP x y = true ↔ ¬ kle y x := by
  unfold betP kle
  simp only [Bool.or_eq_true, Bool.and_eq_true, decide_eq_true_eq]
  omega
theorem bet_not (x y : PT) : betP x y = false ↔ kle y x := by
  have h := bet_iff x y
  cases hb : betP x y with
  | false =>
    rw [hb] at h
    simp only [Bool.false_eq_true, false_iff] at h
    simp only [true_iff]
    exact Classical.not_not.1 h
  | true =>
    have := h.1 hb
    simp only [Bool.true_eq_false, false_iff]
    exact this
theorem kle_refl (x : PT) : kle x x := by unfold kle; omega
theorem kle_trans {x y z : PT} (h : kle x y) (k : kle y z) : kle x z := by unfold kle at *; omega
theorem kle_total (x y : PT) : kle x y ∨ kle y x := by unfold kle; omega

def swp (S : List PT) (i j : Nat) : List PT := (S.set i (nthT S j)).set j (nthT S i)
theorem swp_len (S : List PT) (i j : Nat) : (swp S i j).length = S.length := by unfold swp; simp
theorem nthP_lt {S : List PT} {i : Nat} (h : i < S.length) : nthT S i = S[i] := by unfold nthT; simp [List.getD, h]
theorem nth_set_self {S : List PT} {i : Nat} (x : PT) (h : i < S.length) : nthT (S.set i x) i = x := by unfold nthT; simp [List.getD, h]
theorem nth_set_ne {S : List PT} {i j : Nat} (x : PT) (h : i ≠ j) : nthT (S.set i x) j = nthT S j := by unfold nthT; simp [List.getD, h]
theorem swp_i {S : List PT} {i j : Nat} (hi : i < S.length) (hj : j < S.length) : nthT (swp S i j) i = nthT S j := by
  unfold swp
  by_cases e : j = i
  · subst e; rw [nth_set_self _ (by simpa using hj)]
  · rw [nth_set_ne _ e, nth_set_self _ hi]
theorem swp_j {S : List PT} {i j : Nat} (hj : j < S.length) : nthT (swp S i j) j = nthT S i := by
  unfold swp
  rw [nth_set_self _ (by simpa using hj)]
theorem swp_ne {S : List PT} {i j k : Nat} (h1 : k ≠ i) (h2 : k ≠ j) : nthT (swp S i j) k = nthT S k := by
  unfold swp
  rw [nth_set_ne _ (fun e => h2 e.symm), nth_set_ne _ (fun e => h1 e.symm)]
theorem swp_perm {S : List PT} {i j : Nat} (hi : i < S.length) (hj : j < S.length) : (swp S i j).Perm S := by
  unfold swp
  rw [nthP_lt hi, nthP_lt hj]
  exact List.set_set_perm hi hj

/-- The child that is asked. -/
def chP (S : List PT) (i n : Nat) : Nat := if 2 * i + 2 < n ∧ betP (nthT S (2 * i + 2)) (nthT S (2 * i + 1)) = true then 2 * i + 2 else 2 * i + 1
def downP : Nat → List PT → Nat → Nat → List PT
  | 0, S, _, _ => S
  | f + 1, S, i, n => if 2 * i + 1 < n then (if betP (nthT S (chP S i n)) (nthT S i) = true then downP f (swp S i (chP S i n)) (chP S i n) n else S) else S
def upP : Nat → List PT → Nat → List PT
  | 0, S, _ => S
  | f + 1, S, j => if 0 < j then (if betP (nthT S j) (nthT S ((j - 1) / 2)) = true then upP f (swp S ((j - 1) / 2) j) ((j - 1) / 2) else S) else S
theorem ch_lt {S : List PT} {i n : Nat} (h : 2 * i + 1 < n) : chP S i n < n ∧ (chP S i n = 2 * i + 1 ∨ chP S i n = 2 * i + 2) := by
  unfold chP
  split
  · rename_i h1; exact ⟨h1.1, .inr rfl⟩
  · exact ⟨h, .inl rfl⟩
/-- No child is better than the one that is asked. -/
theorem ch_best {S : List PT} {i n c : Nat} (hc : c = 2 * i + 1 ∨ c = 2 * i + 2) (hn : c < n) : kle (nthT S (chP S i n)) (nthT S c) := by
  unfold chP
  split
  · rename_i h1
    have h2 := (bet_iff _ _).1 h1.2
    rcases hc with rfl | rfl
    · rcases kle_total (nthT S (2 * i + 2)) (nthT S (2 * i + 1)) with h | h
      · exact h
      · exact absurd h h2
    · exact kle_refl _
  · rename_i h1
    rcases hc with rfl | rfl
    · exact kle_refl _
    · rcases Bool.eq_false_or_eq_true (betP (nthT S (2 * i + 2)) (nthT S (2 * i + 1))) with h | h
      · exact absurd ⟨hn, h⟩ h1
      · exact (bet_not _ _).1 h
theorem down_len : ∀ (f : Nat) (S : List PT) (i n : Nat), (downP f S i n).length = S.length
  | 0, _, _, _ => rfl
  | f + 1, S, i, n => by
    rw [downP]
    split
    · split
      · rw [down_len, swp_len]
      · rfl
    · rfl
theorem down_perm : ∀ (f : Nat) (S : List PT) (i n : Nat), n ≤ S.length → i < n → (downP f S i n).Perm S
  | 0, _, _, _, _, _ => List.Perm.refl _
  | f + 1, S, i, n, hn, hi => by
    rw [downP]
    split
    · rename_i h1
      have hc := ch_lt (S := S) h1
      split
      · exact (down_perm f _ _ n (by rw [swp_len]; exact hn) hc.1).trans (swp_perm (by omega) (by omega))
      · exact List.Perm.refl _
    · exact List.Perm.refl _
theorem down_out : ∀ (f : Nat) (S : List PT) (i n k : Nat), i < n → n ≤ k → nthT (downP f S i n) k = nthT S k
  | 0, _, _, _, _, _, _ => rfl
  | f + 1, S, i, n, k, hi, hk => by
    rw [downP]
    split
    · rename_i h1
      have hc := ch_lt (S := S) h1
      split
      · rw [down_out f _ _ n k hc.1 hk, swp_ne (by omega) (by omega)]
      · rfl
    · rfl
theorem up_len : ∀ (f : Nat) (S : List PT) (j : Nat), (upP f S j).length = S.length
  | 0, _, _ => rfl
  | f + 1, S, j => by
    rw [upP]
    split
    · split
      · rw [up_len, swp_len]
      · rfl
    · rfl
theorem up_perm : ∀ (f : Nat) (S : List PT) (j : Nat), j < S.length → (upP f S j).Perm S
  | 0, _, _, _ => List.Perm.refl _
  | f + 1, S, j, hj => by
    rw [upP]
    split
    · split
      · exact (up_perm f _ _ (by rw [swp_len]; omega)).trans (swp_perm (by omega) hj)
      · exact List.Perm.refl _
    · exact List.Perm.refl _

/-- c is a child of p. -/
def Kid (p c : Nat) : Prop := c = 2 * p + 1 ∨ c = 2 * p + 2
/-- From place m on no child is better than its parent. -/
def HeapF (S : List PT) (n m : Nat) : Prop := ∀ p c, m ≤ p → Kid p c → c < n → kle (nthT S p) (nthT S c)
/-- The same but at place i, whose children are no better than its parent. -/
def HeapX (S : List PT) (n m i : Nat) : Prop := (∀ p c, m ≤ p → p ≠ i → Kid p c → c < n → kle (nthT S p) (nthT S c)) ∧ ∀ p c, m ≤ p → Kid p i → Kid i c → c < n → kle (nthT S p) (nthT S c)
theorem down_heap : ∀ (f : Nat) (S : List PT) (i n m : Nat), n ≤ S.length → i < n → n ≤ f + i → HeapX S n m i → m ≤ i → HeapF (downP f S i n) n m
  | 0, S, i, n, m, hn, hi, hf, hx, hm => by omega
  | f + 1, S, i, n, m, hn, hi, hf, hx, hm => by
    rw [downP]
    split
    · rename_i h1
      have hc := ch_lt (S := S) h1
      have hb := fun c h1 h2 => ch_best (S := S) (i := i) (n := n) (c := c) h1 h2
      generalize chP S i n = j at *
      have hij : i < j := by omega
      split
      · rename_i h2
        have h2' : kle (nthT S j) (nthT S i) := by
          rcases kle_total (nthT S j) (nthT S i) with h | h
          · exact h
          · exact absurd h ((bet_iff _ _).1 h2)
        refine down_heap f _ j n m (by rw [swp_len]; exact hn) hc.1 (by omega) ⟨fun p c hp hne hk hcn => ?_, fun p c hp hkj hk hcn => ?_⟩ (by omega)
        · by_cases e : p = i
          · subst e
            rw [swp_i (by omega) (by omega)]
            by_cases e2 : c = j
            · subst e2
              rw [swp_j (by omega)]
              exact h2'
            · rw [swp_ne (by unfold Kid at hk; omega) e2]
              exact hb c hk hcn
          · rw [swp_ne e hne]
            by_cases e2 : c = i
            · subst e2
              rw [swp_i (by omega) (by omega)]
              exact hx.2 p j hp hk hc.2 hc.1
            · rw [swp_ne e2 (by intro e3; unfold Kid at hk; omega)]
              exact hx.1 p c hp e hk hcn
        · have ep : p = i := by unfold Kid at hkj; omega
          subst ep
          rw [swp_i (by omega) (by omega), swp_ne (by unfold Kid at hk; omega) (by unfold Kid at hk; omega)]
          exact hx.1 j c (by omega) (by omega) hk hcn
      · rename_i h2
        have h2' : kle (nthT S i) (nthT S j) := (bet_not _ _).1 (by simpa using h2)
        intro p c hp hk hcn
        by_cases e : p = i
        · subst e
          exact kle_trans h2' (hb c hk hcn)
        · exact hx.1 p c hp e hk hcn
    · rename_i h1
      intro p c hp hk hcn
      by_cases e : p = i
      · subst e
        unfold Kid at hk
        omega
      · exact hx.1 p c hp e hk hcn
/-- A heap but at place j and its parent. -/
def HeapU (S : List PT) (n j : Nat) : Prop := (∀ p c, c ≠ j → Kid p c → c < n → kle (nthT S p) (nthT S c)) ∧ ∀ p c, Kid p j → Kid j c → c < n → kle (nthT S p) (nthT S c)
theorem up_heap : ∀ (f : Nat) (S : List PT) (j : Nat), j < S.length → j < f → HeapU S S.length j → HeapF (upP f S j) S.length 0
  | 0, S, j, hj, hf, hx => by omega
  | f + 1, S, j, hj, hf, hx => by
    rw [upP]
    split
    · rename_i h0
      have hk0 : Kid ((j - 1) / 2) j := by unfold Kid; omega
      have hu : ∀ p, Kid p j → p = (j - 1) / 2 := fun p h => by unfold Kid at h; omega
      have hij : (j - 1) / 2 < j := by omega
      generalize (j - 1) / 2 = i at *
      split
      · rename_i h2
        have h2' : kle (nthT S j) (nthT S i) := by
          rcases kle_total (nthT S j) (nthT S i) with h | h
          · exact h
          · exact absurd h ((bet_iff _ _).1 h2)
        have := up_heap f (swp S i j) i (by rw [swp_len]; omega) (by omega) ?_
        · rw [swp_len] at this
          exact this
        · rw [swp_len]
          refine ⟨fun p c hne hk hcn => ?_, fun p c hkj hk hcn => ?_⟩
          · by_cases e2 : c = j
            · subst e2
              have := hu p hk
              subst this
              rw [swp_i (by omega) hj, swp_j hj]
              exact h2'
            · rw [swp_ne (k := c) hne e2]
              by_cases e : p = j
              · subst e
                rw [swp_j hj]
                exact hx.2 i c hk0 hk hcn
              · by_cases e3 : p = i
                · subst e3
                  rw [swp_i (by omega) hj]
                  exact kle_trans h2' (hx.1 p c e2 hk hcn)
                · rw [swp_ne e3 e]
                  exact hx.1 p c e2 hk hcn
          · have hpi : p < i := by unfold Kid at hkj; omega
            rw [swp_ne (k := p) (by omega) (by omega)]
            have h3 := hx.1 p i (by omega) hkj (by omega)
            by_cases e2 : c = j
            · subst e2
              rw [swp_j hj]
              exact h3
            · rw [swp_ne (k := c) (by unfold Kid at hk; omega) e2]
              exact kle_trans h3 (hx.1 i c e2 hk hcn)
      · rename_i h2
        have h2' : kle (nthT S i) (nthT S j) := (bet_not _ _).1 (by simpa using h2)
        intro p c _ hk hcn
        by_cases e : c = j
        · subst e
          rw [hu p hk]
          exact h2'
        · exact hx.1 p c e hk hcn
    · rename_i h0
      intro p c _ hk hcn
      have : c ≠ j := by unfold Kid at hk; omega
      exact hx.1 p c this hk hcn
/-- The first is the best. -/
theorem heap_root {S : List PT} {n : Nat} (h : HeapF S n 0) : ∀ k, k < n → kle (nthT S 0) (nthT S k) := by
  intro k
  induction k using Nat.strongRecOn with
  | ind k ih =>
    intro hk
    by_cases e : k = 0
    · subst e; exact kle_refl _
    · exact kle_trans (ih ((k - 1) / 2) (by omega) (by omega)) (h ((k - 1) / 2) k (by omega) (by unfold Kid; omega) hk)

/-! The heap: made, its best taken out, one put in. -/
def initH : Nat → List PT → List PT
  | 0, S => S
  | k + 1, S => initH k (downP S.length S k S.length)
theorem initH_len : ∀ (k : Nat) (S : List PT), (initH k S).length = S.length
  | 0, _ => rfl
  | k + 1, S => by rw [initH, initH_len, down_len]
theorem initH_heap : ∀ (k : Nat) (S : List PT), k ≤ S.length / 2 → HeapF S S.length k → (initH k S).Perm S ∧ HeapF (initH k S) S.length 0
  | 0, S, _, h => ⟨List.Perm.refl _, h⟩
  | k + 1, S, hk, h => by
    rw [initH]
    have hd := down_heap S.length S k S.length k (Nat.le_refl _) (by omega) (by omega) ⟨fun p c hp hne hkd hc => h p c (by omega) hkd hc, fun p c hp hpk => by unfold Kid at hpk; omega⟩ (Nat.le_refl _)
    have hl := down_len S.length S k S.length
    have ih := initH_heap k (downP S.length S k S.length) (by rw [hl]; omega) (by rw [hl]; exact hd)
    rw [hl] at ih
    exact ⟨ih.1.trans (down_perm _ _ _ _ (Nat.le_refl _) (by omega)), ih.2⟩
theorem leaf_heap (S : List PT) : HeapF S S.length (S.length / 2) := fun p c hp hk hc => by unfold Kid at hk; omega
/-- What Pop leaves, its last place still there. -/
def popS (H : List PT) : List PT := downP H.length (swp H 0 (H.length - 1)) 0 (H.length - 1)
theorem popS_len (H : List PT) : (popS H).length = H.length := by unfold popS; rw [down_len, swp_len]
theorem take_get {S : List PT} {n k : Nat} (h : k < n) : nthT (S.take n) k = nthT S k := by unfold nthT; simp [List.getD, h]
theorem popS_last {H : List PT} (h : 0 < H.length) : nthT (popS H) (H.length - 1) = nthT H 0 := by
  unfold popS
  by_cases h1 : 0 < H.length - 1
  · rw [down_out _ _ _ _ _ h1 (Nat.le_refl _), swp_j (by omega)]
  · have e : H.length - 1 = 0 := by omega
    rw [e]
    have : downP H.length (swp H 0 0) 0 0 = swp H 0 0 := by
      cases H.length with
      | zero => rfl
      | succ f => rw [downP, if_neg (by omega)]
    rw [this, swp_j h]
theorem popS_heap {H : List PT} (h : 0 < H.length) (hh : HeapF H H.length 0) : (popS H).Perm H ∧ HeapF ((popS H).take (H.length - 1)) (H.length - 1) 0 := by
  by_cases h1 : 0 < H.length - 1
  · have hp : (popS H).Perm H := (down_perm _ _ _ _ (by rw [swp_len]; omega) h1).trans (swp_perm h (by omega))
    refine ⟨hp, ?_⟩
    have hd : HeapF (popS H) (H.length - 1) 0 := down_heap _ _ 0 _ 0 (by rw [swp_len]; omega) h1 (by omega) ⟨fun p c _ hne hk hc => by
      rw [swp_ne hne (by unfold Kid at hk; omega), swp_ne (by unfold Kid at hk; omega) (by omega)]
      exact hh p c (Nat.zero_le _) hk (by omega), fun p c _ hk => by unfold Kid at hk; omega⟩ (Nat.le_refl _)
    intro p c hp hk hc
    rw [take_get (by unfold Kid at hk; omega), take_get hc]
    exact hd p c hp hk hc
  · have e : H.length - 1 = 0 := by omega
    refine ⟨?_, fun p c _ hk hc => by omega⟩
    unfold popS
    rw [e]
    have : downP H.length (swp H 0 0) 0 0 = swp H 0 0 := by
      cases H.length with
      | zero => rfl
      | succ f => rw [downP, if_neg (by omega)]
    rw [this]
    exact swp_perm h h
/-- The best, and what is left of the heap. -/
theorem pop_all {H : List PT} (h : 0 < H.length) (hh : HeapF H H.length 0) : H.Perm (nthT H 0 :: (popS H).take (H.length - 1)) ∧ HeapF ((popS H).take (H.length - 1)) ((popS H).take (H.length - 1)).length 0 ∧ ((popS H).take (H.length - 1)).length = H.length - 1 := by
  have hp := popS_heap h hh
  have hl := popS_len H
  have e1 : ((popS H).take (H.length - 1)).length = H.length - 1 := by rw [List.length_take, hl]; omega
  refine ⟨?_, by rw [e1]; exact hp.2, e1⟩
  have e2 : popS H = (popS H).take (H.length - 1) ++ [nthT H 0] := by
    rw [← popS_last h, nthP_lt (by omega)]
    have := List.take_append_getElem (l := popS H) (i := H.length - 1) (by omega)
    rw [show H.length - 1 + 1 = (popS H).length by omega, List.take_length] at this
    exact this.symm
  have h2 : (popS H).Perm (nthT H 0 :: (popS H).take (H.length - 1)) := by
    have h3 : ((popS H).take (H.length - 1) ++ [nthT H 0]).Perm (nthT H 0 :: (popS H).take (H.length - 1)) := List.perm_append_comm
    rw [← e2] at h3
    exact h3
  exact hp.1.symm.trans h2
def pushH (H : List PT) (x : PT) : List PT := upP (H.length + 1) (H ++ [x]) H.length
theorem push_all {H : List PT} (x : PT) (hh : HeapF H H.length 0) : (pushH H x).Perm (x :: H) ∧ HeapF (pushH H x) (pushH H x).length 0 ∧ (pushH H x).length = H.length + 1 := by
  have hl : (H ++ [x]).length = H.length + 1 := by simp
  have e1 : (pushH H x).length = H.length + 1 := by unfold pushH; rw [up_len, hl]
  have ha : ∀ k, k < H.length → nthT (H ++ [x]) k = nthT H k := fun k hk => by unfold nthT; simp [List.getD, List.getElem?_append, hk]
  refine ⟨?_, ?_, e1⟩
  · exact (up_perm _ _ _ (by omega)).trans List.perm_append_comm
  · have := up_heap (H.length + 1) (H ++ [x]) H.length (by omega) (by omega) ⟨fun p c hne hk hc => by
      rw [hl] at hc
      rw [ha p (by unfold Kid at hk; omega), ha c (by omega)]
      exact hh p c (Nat.zero_le _) hk (by omega), fun p c _ hk hc => by rw [hl] at hc; unfold Kid at hk; omega⟩
    rw [hl] at this
    rw [e1]
    exact this

/-! The list's least and the heap's first are one. -/
theorem leastTo_best (S : List PT) : ∀ k, leastPTo S k ≤ k ∧ ∀ j, j ≤ k → kle (nthT S (leastPTo S k)) (nthT S j)
  | 0 => ⟨Nat.le_refl _, fun j hj => by
    have e : j = 0 := Nat.le_zero.1 hj
    subst e
    exact kle_refl _⟩
  | k + 1 => by
    obtain ⟨h1, h2⟩ := leastTo_best S k
    rw [leastPTo]
    split
    · rename_i hb
      have hle : kle (nthT S (k + 1)) (nthT S (leastPTo S k)) := by
        rcases kle_total (nthT S (k + 1)) (nthT S (leastPTo S k)) with h | h
        · exact h
        · exact absurd h ((bet_iff _ _).1 hb)
      refine ⟨Nat.le_refl _, fun j hj => ?_⟩
      by_cases e : j = k + 1
      · subst e; exact kle_refl _
      · exact kle_trans hle (h2 j (by omega))
    · rename_i hb
      have hle : kle (nthT S (leastPTo S k)) (nthT S (k + 1)) := (bet_not _ _).1 (by simpa using hb)
      refine ⟨by omega, fun j hj => ?_⟩
      by_cases e : j = k + 1
      · subst e; exact hle
      · exact h2 j (by omega)
theorem least_best {S : List PT} (h : 0 < S.length) : leastP S < S.length ∧ ∀ j, j < S.length → kle (nthT S (leastP S)) (nthT S j) := by
  have := leastTo_best S (S.length - 1)
  unfold leastP
  exact ⟨by omega, fun j hj => this.2 j (by omega)⟩
/-- No two trees have one least symbol. -/
def Apart (S : List PT) : Prop := (S.map (fun x => x.2.1)).Nodup
theorem apart_inj : ∀ {S : List PT}, Apart S → ∀ {x y : PT}, x ∈ S → y ∈ S → x.2.1 = y.2.1 → x = y
  | [], _, x, _, hx, _, _ => by cases hx
  | z :: S, h, x, y, hx, hy, e => by
    unfold Apart at h
    rw [List.map_cons, List.nodup_cons] at h
    rcases List.mem_cons.1 hx with hx1 | hx1
    · subst hx1
      rcases List.mem_cons.1 hy with hy1 | hy1
      · exact hy1.symm
      · exact absurd (by rw [e]; exact List.mem_map_of_mem (f := fun x : PT => x.2.1) hy1) h.1
    · rcases List.mem_cons.1 hy with hy1 | hy1
      · subst hy1
        exact absurd (by rw [← e]; exact List.mem_map_of_mem (f := fun x : PT => x.2.1) hx1) h.1
      · exact apart_inj h.2 hx1 hy1 e
theorem Apart.perm {S R : List PT} (h : Apart S) (p : R.Perm S) : Apart R := by
  unfold Apart at *
  exact (p.map _).nodup_iff.2 h
theorem nth_mem {S : List PT} {i : Nat} (h : i < S.length) : nthT S i ∈ S := by rw [nthP_lt h]; exact List.getElem_mem h
theorem erase_perm {S : List PT} {i : Nat} (h : i < S.length) : S.Perm (nthT S i :: S.eraseIdx i) := by
  rw [List.eraseIdx_eq_take_drop_succ]
  have e : S = S.take i ++ nthT S i :: S.drop (i + 1) := by
    rw [nthP_lt h, ← List.drop_eq_getElem_cons h, List.take_append_drop]
  have h2 : (S.take i ++ nthT S i :: S.drop (i + 1)).Perm (nthT S i :: (S.take i ++ S.drop (i + 1))) := List.perm_middle
  rw [← e] at h2
  exact h2
theorem mem_nth {S : List PT} {x : PT} (h : x ∈ S) : ∃ i, i < S.length ∧ nthT S i = x := by
  obtain ⟨i, hi, e⟩ := List.getElem_of_mem h
  exact ⟨i, hi, by rw [nthP_lt hi]; exact e⟩
/-- What the heap gives out first is what the list's search finds, and the same is left. -/
theorem first_least {H L : List PT} (hp : H.Perm L) (ha : Apart L) (h0 : 0 < H.length) (hh : HeapF H H.length 0) : nthT H 0 = nthT L (leastP L) ∧ ((popS H).take (H.length - 1)).Perm (L.eraseIdx (leastP L)) := by
  have hl : 0 < L.length := by rw [← hp.length_eq]; exact h0
  obtain ⟨h1, h2⟩ := least_best hl
  have e : nthT H 0 = nthT L (leastP L) := by
    have hm : nthT H 0 ∈ L := hp.mem_iff.1 (nth_mem h0)
    have hm2 : nthT L (leastP L) ∈ H := hp.mem_iff.2 (nth_mem h1)
    obtain ⟨i, hi, ei⟩ := mem_nth hm
    obtain ⟨j, hj, ej⟩ := mem_nth hm2
    have k1 := h2 i hi
    have k2 := heap_root hh j hj
    rw [ei] at k1
    rw [ej] at k2
    exact apart_inj ha hm (nth_mem h1) (by unfold kle at k1 k2; omega)
  refine ⟨e, ?_⟩
  have p1 := (pop_all h0 hh).1
  have p2 := erase_perm h1
  rw [← e] at p2
  exact List.Perm.cons_inv (p1.symm.trans (hp.trans p2))
theorem Apart.cons_inv {x : PT} {S : List PT} (h : Apart (x :: S)) : Apart S ∧ ∀ y ∈ S, y.2.1 ≠ x.2.1 := by
  unfold Apart at *
  rw [List.map_cons, List.nodup_cons] at h
  exact ⟨h.2, fun y hy e => h.1 (by rw [← e]; exact List.mem_map_of_mem hy)⟩
/-- The heap's run. -/
def runH : Nat → List PT → List Int → List Int
  | 0, _, l => l
  | f + 1, H, l => if 1 < H.length then
      runH f (pushH ((popS ((popS H).take (H.length - 1))).take (((popS H).take (H.length - 1)).length - 1)) (mergeP (nthT H 0) (nthT ((popS H).take (H.length - 1)) 0)))
        (bumpTo l ((nthT H 0).2.2 ++ (nthT ((popS H).take (H.length - 1)) 0).2.2) ((nthT H 0).2.2 ++ (nthT ((popS H).take (H.length - 1)) 0).2.2).length) else l
theorem run_eq : ∀ (f : Nat) (H L : List PT) (l : List Int), H.Perm L → Apart L → HeapF H H.length 0 → runH f H l = runP f L l
  | 0, _, _, _, _, _, _ => rfl
  | f + 1, H, L, l, hp, ha, hh => by
    have hlen := hp.length_eq
    rw [runH, runP, hlen]
    by_cases h1 : 1 < L.length
    · rw [if_pos h1, if_pos h1]
      obtain ⟨e1, p1⟩ := first_least hp ha (by omega) hh
      obtain ⟨q1, hh1, l1⟩ := pop_all (H := H) (by omega) hh
      have ha1 : Apart (L.eraseIdx (leastP L)) ∧ ∀ y ∈ L.eraseIdx (leastP L), y.2.1 ≠ (nthT L (leastP L)).2.1 := Apart.cons_inv (ha.perm (erase_perm (least_best (S := L) (by omega)).1).symm)
      rw [← hlen]
      generalize (popS H).take (H.length - 1) = H1 at *
      have hlen1 := p1.length_eq
      obtain ⟨e2, p2⟩ := first_least p1 ha1.1 (by omega) hh1
      obtain ⟨q2, hh2, l2⟩ := pop_all (H := H1) (by omega) hh1
      have hb2 := least_best (S := L.eraseIdx (leastP L)) (by omega)
      have ha2 := Apart.cons_inv (ha1.1.perm (erase_perm hb2.1).symm)
      generalize (popS H1).take (H1.length - 1) = H2 at *
      obtain ⟨q3, hh3, l3⟩ := push_all (mergeP (nthT H 0) (nthT H1 0)) hh2
      show runH f _ _ = runP f ((L.eraseIdx (leastP L)).eraseIdx (leastP (L.eraseIdx (leastP L))) ++ [mergeP (nthT L (leastP L)) (nthT (L.eraseIdx (leastP L)) (leastP (L.eraseIdx (leastP L))))]) (bumpTo l (mergeP (nthT L (leastP L)) (nthT (L.eraseIdx (leastP L)) (leastP (L.eraseIdx (leastP L))))).2.2 (mergeP (nthT L (leastP L)) (nthT (L.eraseIdx (leastP L)) (leastP (L.eraseIdx (leastP L))))).2.2.length)
      have hnm : nthT (L.eraseIdx (leastP L)) (leastP (L.eraseIdx (leastP L))) ∈ L.eraseIdx (leastP L) := nth_mem hb2.1
      have hmem : ∀ y ∈ (L.eraseIdx (leastP L)).eraseIdx (leastP (L.eraseIdx (leastP L))), y ∈ L.eraseIdx (leastP L) := fun y hy => List.mem_of_mem_eraseIdx hy
      rw [← e1, ← e2] at *
      refine run_eq f _ _ _ ?_ ?_ hh3
      · exact q3.trans ((List.Perm.cons _ p2).trans (List.perm_append_comm (l₁ := [_])))
      · refine Apart.perm (S := mergeP (nthT H 0) (nthT H1 0) :: (L.eraseIdx (leastP L)).eraseIdx (leastP (L.eraseIdx (leastP L)))) ?_ List.perm_append_comm
        unfold Apart
        rw [List.map_cons, List.nodup_cons]
        refine ⟨fun hin => ?_, ha2.1⟩
        obtain ⟨y, hy, ey⟩ := List.mem_map.1 hin
        have n1 := ha1.2 y (hmem y hy)
        have n2 := ha2.2 y hy
        unfold mergeP at ey
        simp only at ey
        split at ey <;> omega
    · rw [if_neg h1, if_neg h1]
end Go.Proofs.YtnnakmgngkpghaaGreat

/- The methods of a heap of trees. -/
namespace Go.Proofs.YtnnakmgngkpghaaGreat
open Go.RowKit
set_option linter.unusedVariables false

/-- A row of cells, by its block. -/
def Blk (w : World) (b : Nat) (l : List Value) (t : TypeId) : Prop := w.heap[b]? = some (.cells l.toArray t (0, 0))
theorem Blk.lt {w : World} {b : Nat} {l : List Value} {t : TypeId} (h : Blk w b l t) : b < w.heap.size := (Array.getElem?_eq_some_iff.1 h).1
theorem Blk.cell {w : World} {b : Nat} {l : List Value} {t : TypeId} (h : Blk w b l t) {i : Nat} {v : Value} (hv : l[i]? = some v) : w.cell? ⟨b, i, none⟩ = some v := by
  rw [cell_of_row w b i _ t (0, 0) h]
  simpa using hv
theorem Blk.free {w : World} {b : Nat} {l : List Value} {t : TypeId} (h : Blk w b l t) (i : Nat) : w.frozen? ⟨b, i, none⟩ = false := frozen_of_row w b i _ t h
theorem Blk.set {w : World} {b : Nat} {l : List Value} {t : TypeId} (h : Blk w b l t) (i : Nat) (v : Value) : Blk (w.setCell ⟨b, i, none⟩ v) b (l.set i v) t := by
  have := heap_setCell_same w b i _ t v h
  unfold Blk
  rw [this]
  simp
theorem Blk.below {w w' : World} {B b : Nat} {l : List Value} {t : TypeId} (h : Blk w b l t) (hb : Below B w w') (hB : b < B) : Blk w' b l t := (hb.block b hB).trans h
theorem Blk.otherB {w : World} {b C i : Nat} {l : List Value} {t : TypeId} (h : Blk w b l t) (hne : b ≠ C) (v : Value) : Blk (w.setCell ⟨C, i, none⟩ v) b l t := (heap_setCell_other w ⟨C, i, none⟩ b v hne).trans h
theorem Blk.drew {w : World} {b : Nat} {l : List Value} {t : TypeId} (h : Blk w b l t) (n : Nat) : Blk (w.drewN n) b l t := h

/-- The trees of a row whose block is G. -/
def RowT (w : World) (G : Nat) (cur : List Value) (E : List TE) : Prop := Blk w G cur 155 ∧ cur.take (E.length * 3) = flE E ∧ E.length * 3 ≤ cur.length
theorem RowT.at {w : World} {G : Nat} {cur : List Value} {E : List TE} (h : RowT w G cur E) (j : Nat) (hj : j < E.length) : cur[j * 3]? = some (.int .i64 (nthE E j).w) ∧ cur[j * 3 + 1]? = some (.int .i64 (nthE E j).l) ∧ cur[j * 3 + 2]? = some (nthE E j).y := by
  have h1 := flE_at E j hj
  rw [← h.2.1] at h1
  simp only [List.getElem?_take] at h1
  rw [if_pos (by omega), if_pos (by omega), if_pos (by omega)] at h1
  exact h1

set_option maxHeartbeats 800000 in
theorem less_any (G c : Nat) (cur : List Value) (E : List TE) (i j : Nat) (w : World) (hi : i < E.length) (hj : j < E.length) (hl : E.length ≤ 1000) (h : RowT w G cur E) :
    Calls Tryz.prog 155 #[.slice (some ⟨G, 0, none⟩) E.length c, .int .i64 (i : Int), .int .i64 (j : Int)] w fun e w' => e = .returned (.bool (betP (nthE E i).pl (nthE E j).pl)) ∧ ∃ n, w' = w.drewN n := by
  obtain ⟨a0, a1, _⟩ := h.at i hi
  obtain ⟨b0, b1, _⟩ := h.at j hj
  have c0 := h.1.cell a0
  have c1 := h.1.cell a1
  have d0 := h.1.cell b0
  have d1 := h.1.cell b1
  have HR : Hid (betP (nthE E i).pl (nthE E j).pl = (decide ((nthE E i).w < (nthE E j).w) || (decide ((nthE E i).w = (nthE E j).w) && decide ((nthE E i).l < (nthE E j).l)))) := rfl
  generalize (nthE E i).w = wi at *
  generalize (nthE E i).l = li at *
  generalize (nthE E j).w = wj at *
  generalize (nthE E j).l = lj at *
  have hi' : (i : Int) < (E.length : Int) := by omega
  have hj' : (j : Int) < (E.length : Int) := by omega
  have ji : IntKind.i64.wrap (i : Int) = (i : Int) := by rw [IntKind.wrap_i64]; omega
  have jj : IntKind.i64.wrap (j : Int) = (j : Int) := by rw [IntKind.wrap_i64]; omega
  rw [HR.out]
  clear h a0 a1 b0 b1 HR
  by_cases hw : wi = wj
  · subst hw
    have e1 : (wi != wi) = false := by simp
    have e2 : (decide (wi < wi) || (decide (wi = wi) && decide (li < lj))) = decide (li < lj) := by simp
    rw [e2]
    go_enter Tryz.func155, Tryz.ntmps155
    go_wp2_with fail
    go_quiet (fail)
    go_wp2_with fail
    go_quiet (fail)
    go_wp2_with fail
    go_ret
    exact ⟨rfl, _, World.drewN_drewN _ _ _⟩
  · have e1 : (wi != wj) = true := by simpa using hw
    have e2 : (decide (wi < wj) || (decide (wi = wj) && decide (li < lj))) = decide (wi < wj) := by simp [hw]
    rw [e2]
    go_enter Tryz.func155, Tryz.ntmps155
    go_wp2_with fail
    go_quiet (fail)
    go_wp2_with fail
    go_quiet (fail)
    go_wp2_with fail
    go_ret
    exact ⟨rfl, _, World.drewN_drewN _ _ _⟩

/-- Of what was there only block b may have turned. -/
def Ef (b : Nat) (w w' : World) : Prop := w.grownBy w' (some b)
theorem Ef.trans {C : Nat} {a b c : World} (h : Ef C a b) (k : Ef C b c) : Ef C a c :=
  ⟨k.os.trans h.os, k.tape.trans h.tape, k.output.trans h.output, Nat.le_trans h.size k.size, fun g hg hne => (k.block g (Nat.lt_of_lt_of_le hg h.size) hne).trans (h.block g hg hne)⟩
theorem Ef.refl (C : Nat) (w : World) : Ef C w w := World.grownBy.refl w _
theorem Ef.set {C : Nat} (w : World) (j : Nat) (u : Value) : Ef C w (w.setCell ⟨C, j, none⟩ u) :=
  ⟨rfl, rfl, rfl, by simp, fun k _ hk => heap_setCell_other w ⟨C, j, none⟩ k u (fun e => hk (by rw [e]))⟩
theorem Ef.drewN {C : Nat} {a w : World} (h : Ef C a w) (n : Nat) : Ef C a (w.drewN n) := ⟨h.os, h.tape, h.output, h.size, h.block⟩
theorem Blk.ef {w w' : World} {C b : Nat} {l : List Value} {t : TypeId} (h : Blk w b l t) (he : Ef C w w') (hne : b ≠ C) : Blk w' b l t := (he.block b h.lt (fun e => hne (Option.some.inj e))).trans h

def swpE (E : List TE) (i j : Nat) : List TE := (E.set i (nthE E j)).set j (nthE E i)
theorem swpE_len (E : List TE) (i j : Nat) : (swpE E i j).length = E.length := by unfold swpE; simp
theorem swpE_pl (E : List TE) (i j : Nat) : (swpE E i j).map TE.pl = swp (E.map TE.pl) i j := by
  unfold swpE swp
  rw [List.map_set, List.map_set, nthE_pl, nthE_pl]
theorem flE_set : ∀ (E : List TE) (k : Nat) (e : TE), flE (E.set k e) = if k < E.length then (((flE E).set (k * 3) (.int .i64 e.w)).set (k * 3 + 1) (.int .i64 e.l)).set (k * 3 + 2) e.y else flE E
  | [], k, e => by simp
  | x :: E, 0, e => by simp [flE]
  | x :: E, k + 1, e => by
    have ih := flE_set E k e
    have hc : ∀ (y : TE) (R : List TE), flE (y :: R) = .int .i64 y.w :: .int .i64 y.l :: y.y :: flE R := fun y R => by simp [flE]
    have e1 : (k + 1) * 3 = k * 3 + 3 := by omega
    rw [List.set_cons_succ, hc, hc, ih, e1]
    by_cases hk : k < E.length
    · rw [if_pos hk, if_pos (by simpa using hk)]
      rfl
    · rw [if_neg hk, if_neg (by simpa using hk)]
theorem RowT.set {w : World} {G : Nat} {cur : List Value} {E : List TE} (h : RowT w G cur E) (k : Nat) (e : TE) (hk : k < E.length) :
    RowT (((w.setCell ⟨G, k * 3, none⟩ (.int .i64 e.w)).setCell ⟨G, k * 3 + 1, none⟩ (.int .i64 e.l)).setCell ⟨G, k * 3 + 2, none⟩ e.y) G (((cur.set (k * 3) (.int .i64 e.w)).set (k * 3 + 1) (.int .i64 e.l)).set (k * 3 + 2) e.y) (E.set k e) := by
  refine ⟨((h.1.set _ _).set _ _).set _ _, ?_, by simpa using h.2.2⟩
  rw [List.length_set, flE_set, if_pos hk, ← h.2.1, List.take_set, List.take_set, List.take_set]
theorem RowT.drew {w : World} {G : Nat} {cur : List Value} {E : List TE} (h : RowT w G cur E) (n : Nat) : RowT (w.drewN n) G cur E := h

set_option maxHeartbeats 800000 in
theorem swap_any (G c : Nat) (cur : List Value) (E : List TE) (i j : Nat) (w : World) (hi : i < E.length) (hj : j < E.length) (hl : E.length ≤ 1000) (h : RowT w G cur E) (hS : ∀ k, k < E.length → ∃ a n c, (nthE E k).y = .slice a n c) :
    Calls Tryz.prog 156 #[.slice (some ⟨G, 0, none⟩) E.length c, .int .i64 (i : Int), .int .i64 (j : Int)] w fun e w' => e = .returned (.tuple #[]) ∧ (∃ cur', cur'.length = cur.length ∧ RowT w' G cur' (swpE E i j)) ∧ Ef G w w' := by
  obtain ⟨a0, a1, a2⟩ := h.at i hi
  obtain ⟨b0, b1, b2⟩ := h.at j hj
  have c0 := h.1.cell a0
  have c1 := h.1.cell a1
  have c2 := h.1.cell a2
  have f0 := h.1.free (i * 3)
  have f1 := h.1.free (i * 3 + 1)
  have f2 := h.1.free (i * 3 + 2)
  obtain ⟨oi, ni, ci, ei⟩ := hS i hi
  obtain ⟨oj, nj, cj, ej⟩ := hS j hj
  have hi' : (i : Int) < (E.length : Int) := by omega
  have hj' : (j : Int) < (E.length : Int) := by omega
  have ji : IntKind.i64.wrap (i : Int) = (i : Int) := by rw [IntKind.wrap_i64]; omega
  have jj : IntKind.i64.wrap (j : Int) = (j : Int) := by rw [IntKind.wrap_i64]; omega
  have H := hid (h.set i (nthE E j) hi)
  have H2 := hid ((h.set i (nthE E j) hi).set j (nthE E i) (by simpa using hj))
  have hne : Hid (Ef G w (((((((w.setCell ⟨G, i * 3, none⟩ (.int .i64 (nthE E j).w)).setCell ⟨G, i * 3 + 1, none⟩ (.int .i64 (nthE E j).l)).setCell ⟨G, i * 3 + 2, none⟩ (nthE E j).y).setCell ⟨G, j * 3, none⟩ (.int .i64 (nthE E i).w)).setCell ⟨G, j * 3 + 1, none⟩ (.int .i64 (nthE E i).l)).setCell ⟨G, j * 3 + 2, none⟩ (nthE E i).y).drewN 1)) := hid (Ef.drewN ((((((Ef.set _ _ _).trans (Ef.set _ _ _)).trans (Ef.set _ _ _)).trans (Ef.set _ _ _)).trans (Ef.set _ _ _)).trans (Ef.set _ _ _)) 1)
  have d0 := h.1.cell b0
  have d1 := h.1.cell b1
  have d2 := h.1.cell b2
  have g0 := h.1.free (j * 3)
  have g1 := h.1.free (j * 3 + 1)
  have g2 := h.1.free (j * 3 + 2)
  rw [ei] at c2 H2 hne
  rw [ej] at d2 H2 hne
  clear h a0 a1 a2 b0 b1 b2 hS
  by_cases hij : i = j
  · subst hij
    rw [ei] at ej
    cases ej
    clear ei d0 d1 d2 g0 g1 g2
    have HX : Hid (∀ w', w' = (((((((w.setCell ⟨G, i * 3, none⟩ (.int .i64 (nthE E i).w)).setCell ⟨G, i * 3 + 1, none⟩ (.int .i64 (nthE E i).l)).setCell ⟨G, i * 3 + 2, none⟩ (.slice oi ni ci)).setCell ⟨G, i * 3, none⟩ (.int .i64 (nthE E i).w)).setCell ⟨G, i * 3 + 1, none⟩ (.int .i64 (nthE E i).l)).setCell ⟨G, i * 3 + 2, none⟩ (.slice oi ni ci)).drewN 1) → (∃ cur', cur'.length = cur.length ∧ RowT w' G cur' (swpE E i i)) ∧ Ef G w w') := hid (fun w' e => by subst e; exact ⟨⟨_, by simp, H2.out.drew 1⟩, hne.out⟩)
    clear H H2 hne
    generalize (nthE E i).w = wi at *
    generalize (nthE E i).l = li at *
    have m01 : ¬ i * 3 = i * 3 + 1 := by omega
    have m02 : ¬ i * 3 = i * 3 + 2 := by omega
    have m12 : ¬ i * 3 + 1 = i * 3 + 2 := by omega
    go_enter Tryz.func156, Tryz.ntmps156
    go_region
    go_end0
    exact ⟨rfl, HX.out _ rfl⟩
  · have HX : Hid (∀ w', w' = (((((((w.setCell ⟨G, i * 3, none⟩ (.int .i64 (nthE E j).w)).setCell ⟨G, i * 3 + 1, none⟩ (.int .i64 (nthE E j).l)).setCell ⟨G, i * 3 + 2, none⟩ (.slice oj nj cj)).setCell ⟨G, j * 3, none⟩ (.int .i64 (nthE E i).w)).setCell ⟨G, j * 3 + 1, none⟩ (.int .i64 (nthE E i).l)).setCell ⟨G, j * 3 + 2, none⟩ (.slice oi ni ci)).drewN 1) → (∃ cur', cur'.length = cur.length ∧ RowT w' G cur' (swpE E i j)) ∧ Ef G w w') := hid (fun w' e => by subst e; exact ⟨⟨_, by simp, H2.out.drew 1⟩, hne.out⟩)
    clear H H2 hne ei ej
    generalize (nthE E i).w = wi at *
    generalize (nthE E i).l = li at *
    generalize (nthE E j).w = wj at *
    generalize (nthE E j).l = lj at *
    have n00 : ¬ i * 3 = j * 3 := by omega
    have n01 : ¬ i * 3 = j * 3 + 1 := by omega
    have n02 : ¬ i * 3 = j * 3 + 2 := by omega
    have n10 : ¬ i * 3 + 1 = j * 3 := by omega
    have n11 : ¬ i * 3 + 1 = j * 3 + 1 := by omega
    have n12 : ¬ i * 3 + 1 = j * 3 + 2 := by omega
    have n20 : ¬ i * 3 + 2 = j * 3 := by omega
    have n21 : ¬ i * 3 + 2 = j * 3 + 1 := by omega
    have n22 : ¬ i * 3 + 2 = j * 3 + 2 := by omega
    go_enter Tryz.func156, Tryz.ntmps156
    go_region
    go_end0
    exact ⟨rfl, HX.out _ rfl⟩
end Go.Proofs.YtnnakmgngkpghaaGreat

/- A heap of trees: its methods through the interface; down. -/
namespace Go.Proofs.YtnnakmgngkpghaaGreat
open Go.RowKit
set_option linter.unusedVariables false

theorem run_loadk {α : Type} (a : Addr) (v : Value) (w : World) (k : Value → Sem α) (h : w.cell? a = some v) : (Sem.load .plain a k).run Tryz.prog w = (k v).run Tryz.prog w := by
  rw [Sem.run]
  rw [h]
theorem method_less0 (a : Addr) (w : World) : (method 299 157 (.pointer (some a)) "Less").run Tryz.prog w = (Sem.load .plain a (fun v => .pure ((155 : FuncId), v))).run Tryz.prog w := by kernel_rfl
theorem method_less (a : Addr) (v : Value) (w : World) (h : w.cell? a = some v) : (method 299 157 (.pointer (some a)) "Less").run Tryz.prog w = .ok (155, v) w := by
  rw [method_less0, run_loadk a v w _ h]
  rfl
theorem method_swap0 (a : Addr) (w : World) : (method 299 157 (.pointer (some a)) "Swap").run Tryz.prog w = (Sem.load .plain a (fun v => .pure ((156 : FuncId), v))).run Tryz.prog w := by kernel_rfl
theorem method_swap (a : Addr) (v : Value) (w : World) (h : w.cell? a = some v) : (method 299 157 (.pointer (some a)) "Swap").run Tryz.prog w = .ok (156, v) w := by
  rw [method_swap0, run_loadk a v w _ h]
  rfl
theorem method_len0 (a : Addr) (w : World) : (method 299 157 (.pointer (some a)) "Len").run Tryz.prog w = (Sem.load .plain a (fun v => .pure ((120 : FuncId), v))).run Tryz.prog w := by kernel_rfl
theorem method_len (a : Addr) (v : Value) (w : World) (h : w.cell? a = some v) : (method 299 157 (.pointer (some a)) "Len").run Tryz.prog w = .ok (120, v) w := by
  rw [method_len0, run_loadk a v w _ h]
  rfl
theorem method_pop (a : Addr) (w : World) : (method 299 157 (.pointer (some a)) "Pop").run Tryz.prog w = .ok (159, .pointer (some a)) w := by kernel_rfl
theorem method_push (a : Addr) (w : World) : (method 299 157 (.pointer (some a)) "Push").run Tryz.prog w = .ok (160, .pointer (some a)) w := by kernel_rfl

theorem downP_leaf (f : Nat) (S : List PT) (i n : Nat) (h : ¬ 2 * i + 1 < n) : downP f S i n = S := by
  cases f with
  | zero => rfl
  | succ f => rw [downP, if_neg h]
theorem downP_stop (f : Nat) (S : List PT) (i n : Nat) (h : betP (nthT S (chP S i n)) (nthT S i) = false) : downP f S i n = S := by
  cases f with
  | zero => rfl
  | succ f =>
    rw [downP]
    split
    · rw [h, if_neg (by decide)]
    · rfl
theorem downP_go (f : Nat) (S : List PT) (i n : Nat) (h1 : 2 * i + 1 < n) (h : betP (nthT S (chP S i n)) (nthT S i) = true) : downP (f + 1) S i n = downP f (swp S i (chP S i n)) (chP S i n) n := by rw [downP, if_pos h1, if_pos h]

/-- The heap in memory: its variable in block T, its row in block G. -/
def HpM (w : World) (T G c : Nat) (E : List TE) : Prop := Blk w T [.slice (some ⟨G, 0, none⟩) E.length c] 136 ∧ ∃ cur, cur.length = c * 3 ∧ RowT w G cur E
theorem HpM.drew {w : World} {T G c : Nat} {E : List TE} (h : HpM w T G c E) (n : Nat) : HpM (w.drewN n) T G c E := h
theorem nthE_inE {E : List TE} {k : Nat} (h : k < E.length) : nthE E k ∈ E := by
  unfold nthE
  simp [List.getD, h]
theorem swpE_mem {E : List TE} {i j : Nat} (hi : i < E.length) (hj : j < E.length) : ∀ e ∈ swpE E i j, e ∈ E := fun e he => by
  unfold swpE at he
  rcases List.mem_or_eq_of_mem_set he with he | he
  · rcases List.mem_or_eq_of_mem_set he with he | he
    · exact he
    · rw [he]; exact nthE_inE hj
  · rw [he]; exact nthE_inE hi
/-- The contracts that a walk over the heap wants. -/
theorem hp_less {w : World} {T G c : Nat} {E : List TE} (h : HpM w T G c E) (hl : E.length ≤ 1000) (i j : Nat) (hi : i < E.length) (hj : j < E.length) (a b : Int) (ha : a = (i : Int)) (hb : b = (j : Int)) (B : Bool) (hB : betP (nthT (E.map TE.pl) i) (nthT (E.map TE.pl) j) = B) :
    Calls Tryz.prog 155 #[.slice (some ⟨G, 0, none⟩) E.length c, .int .i64 a, .int .i64 b] w fun e w' => e = .returned (.bool B) ∧ ∃ n, w' = w.drewN n := by
  subst ha
  subst hb
  obtain ⟨cur, _, hr⟩ := h.2
  rw [← hB, ← nthE_pl, ← nthE_pl]
  exact less_any G c cur E i j w hi hj hl hr
theorem hp_swap {w : World} {T G c : Nat} {E : List TE} (h : HpM w T G c E) (hTG : T ≠ G) (hl : E.length ≤ 1000) (hS : ∀ e ∈ E, ∃ a n c, e.y = .slice a n c) (i j : Nat) (hi : i < E.length) (hj : j < E.length) (a b : Int) (ha : a = (i : Int)) (hb : b = (j : Int)) :
    Calls Tryz.prog 156 #[.slice (some ⟨G, 0, none⟩) E.length c, .int .i64 a, .int .i64 b] w fun e w' => e = .returned (.tuple #[]) ∧ HpM w' T G c (swpE E i j) ∧ Ef G w w' := by
  subst ha
  subst hb
  obtain ⟨hT, cur, hc, hr⟩ := h
  refine (swap_any G c cur E i j w hi hj hl hr (fun k hk => hS _ (nthE_inE hk))).mono ?_
  rintro e w' ⟨rfl, ⟨cur', hc', hr'⟩, he⟩
  exact ⟨rfl, ⟨by rw [swpE_len]; exact hT.ef he hTG, cur', by rw [hc', hc], hr'⟩, he⟩

set_option maxRecDepth 20000 in
set_option maxHeartbeats 1600000 in
theorem down_any (T G c : Nat) (E : List TE) (i n : Nat) (w : World) (hTG : T ≠ G) (hi : i < 1000) (hn : n ≤ E.length) (hl : E.length ≤ 1000) (h : HpM w T G c E) (hS : ∀ e ∈ E, ∃ a n c, e.y = .slice a n c) :
    Calls Tryz.prog 130 #[.iface 157 (.pointer (some ⟨T, 0, none⟩)), .int .i64 (i : Int), .int .i64 (n : Int)] w fun e w' => ∃ r, e = .returned (.bool r) ∧ (∃ E', HpM w' T G c E' ∧ E'.map TE.pl = downP E.length (E.map TE.pl) i n ∧ E'.length = E.length ∧ ∀ e ∈ E', e ∈ E) ∧ Ef G w w' := by
  have H := hid h
  have HS := hid hS
  have HI := hid hi
  have HN := hid hn
  have HL := hid hl
  have HTG := hid hTG
  clear h hS hi hn hl hTG
  go_enter Tryz.func130, Tryz.ntmps130
  go_wp2_with fail
  go_loopw [7] (fun k wr => ∃ (K f : Nat) (E' : List TE), k = .int .i64 (K : Int) ∧ Hid (K < 1000) ∧ Hid (HpM wr T G c E') ∧ Hid (downP f (E'.map TE.pl) K n = downP E.length (E.map TE.pl) i n ∧ n ≤ f + K) ∧ Hid (E'.length = E.length ∧ ∀ e ∈ E', e ∈ E) ∧ Hid (Ef G w wr)) (fun k _ => 1000 - (intOf k).toNat)
  case atStart => exact ⟨i, E.length, E, rfl, HI.out, H.out, ⟨rfl, by have := HN.out; omega⟩, ⟨rfl, fun e he => he⟩, Ef.refl _ _⟩
  case round =>
    obtain ⟨K, f, E', rfl, hK, hM, hF, hE, he⟩ := hrel
    have k0 : (0 : Int) ≤ (K : Int) := by omega
    have kb : (K : Int) ≤ 1000 := by have := hK.out; omega
    have hc0 := hM.out.1.cell (i := 0) rfl
    have HML : ∀ q, q.cell? ⟨T, 0, none⟩ = some (.slice (some ⟨G, 0, none⟩) E'.length c) → (method 299 157 (.pointer (some ⟨T, 0, none⟩)) "Less").run Tryz.prog q = .ok (155, .slice (some ⟨G, 0, none⟩) E'.length c) q := fun q hq => method_less _ _ q hq
    have HMS : ∀ q, q.cell? ⟨T, 0, none⟩ = some (.slice (some ⟨G, 0, none⟩) E'.length c) → (method 299 157 (.pointer (some ⟨T, 0, none⟩)) "Swap").run Tryz.prog q = .ok (156, .slice (some ⟨G, 0, none⟩) E'.length c) q := fun q hq => method_swap _ _ q hq
    have HLn : Hid (E'.length ≤ 1000) := hid (by rw [hE.out.1]; exact HL.out)
    have HnE : Hid (n ≤ E'.length) := hid (by rw [hE.out.1]; exact HN.out)
    have HSE : Hid (∀ e ∈ E', ∃ a n c, e.y = .slice a n c) := hid (fun e h => HS.out e (hE.out.2 e h))
    by_cases h1 : 2 * K + 1 < n
    · have h1' : decide ((n : Int) ≤ 2 * (K : Int) + 1) = false := by simp; omega
      have h3' : decide (2 * (K : Int) + 1 < 0) = false := by simp; omega
      have H1 := hid h1
      obtain ⟨f', rfl⟩ : ∃ f', f = f' + 1 := ⟨f - 1, by have := hF.out.2; omega⟩
      by_cases h2 : 2 * K + 2 < n
      · have h2' : decide (2 * (K : Int) + 1 + 1 < (n : Int)) = true := by simp; omega
        have H2 := hid h2
        cases hb1 : betP (nthT (E'.map TE.pl) (2 * K + 2)) (nthT (E'.map TE.pl) (2 * K + 1)) with
        | true =>
          have hch : Hid (chP (E'.map TE.pl) K n = 2 * K + 2) := hid (by unfold chP; rw [if_pos ⟨h2, hb1⟩])
          have HP := hid (hp_less hM.out HLn.out (2 * K + 2) (2 * K + 1) (by have := H2.out; have := HnE.out; omega) (by have := H2.out; have := HnE.out; omega) (2 * (K : Int) + 1 + 1) (2 * (K : Int) + 1) (by omega) (by omega) true hb1)
          clear h1 h2 hb1
          go_upto_region 8 with (go_at_call 155; refine HP.out.mono ?_; rintro e w2 ⟨rfl, q2, rfl⟩)
          have hM2 := hid (hM.out.drew q2)
          have he2 := hid (he.out.drewN q2)
          clear hc0 hM he
          generalize wr.drewN q2 = wx at *
          have hc0 := hM2.out.1.cell (i := 0) rfl
          have HJ : Hid (2 * K + 2 < E'.length ∧ K < E'.length ∧ 2 * K + 2 < 1000) := hid (by have := H1.out; have := HnE.out; have := HLn.out; have := H2.out; omega)
          cases hb2 : betP (nthT (E'.map TE.pl) (2 * K + 2)) (nthT (E'.map TE.pl) K) with
          | false =>
            have HQ := hid (hp_less hM2.out HLn.out (2 * K + 2) K HJ.out.1 HJ.out.2.1 (2 * (K : Int) + 1 + 1) (K : Int) (by omega) rfl false hb2)
            have HR := hid ((downP_stop (f' + 1) (E'.map TE.pl) K n (by rw [hch.out]; exact hb2)).symm.trans hF.out.1)
            clear hb2
            go_wp2_with (go_at_call 155; refine HQ.out.mono ?_; rintro e w3 ⟨rfl, q3, rfl⟩)
            go_ret
            exact ⟨_, rfl, ⟨E', hM2.out.drew q3, HR.out, hE.out.1, hE.out.2⟩, he2.out.drewN q3⟩
          | true =>
            have HQ := hid (hp_less hM2.out HLn.out (2 * K + 2) K HJ.out.1 HJ.out.2.1 (2 * (K : Int) + 1 + 1) (K : Int) (by omega) rfl true hb2)
            have HG := hid ((downP_go f' (E'.map TE.pl) K n H1.out (by rw [hch.out]; exact hb2)).symm.trans hF.out.1)
            rw [hch.out] at HG
            clear hb2
            go_wp2_with (go_at_call 155; refine HQ.out.mono ?_; rintro e w3 ⟨rfl, q3, rfl⟩)
            refine (hp_swap (hM2.out.drew q3) HTG.out HLn.out HSE.out K (2 * K + 2) HJ.out.2.1 HJ.out.1 (K : Int) (2 * (K : Int) + 1 + 1) rfl (by omega)).mono ?_
            rintro e w4 ⟨rfl, hm4, he4⟩
            have HM4 := hid hm4
            have HE4 := hid ((he2.out.drewN q3).trans he4)
            clear hm4 he4
            go_wp2_with fail
            go_roundw
            case rel => exact ⟨2 * K + 2, f', swpE E' K (2 * K + 2), val_int (by omega), HJ.out.2.2, HM4.out, ⟨by rw [swpE_pl]; exact HG.out, by have := hF.out.2; omega⟩, ⟨by rw [swpE_len]; exact hE.out.1, fun e h => hE.out.2 e (swpE_mem HJ.out.2.1 HJ.out.1 e h)⟩, HE4.out⟩
            case measure => simp [intOf]; have := HJ.out.2.2; omega
        | false =>
          have hch : Hid (chP (E'.map TE.pl) K n = 2 * K + 1) := hid (by unfold chP; rw [if_neg (fun e => by rw [hb1] at e; cases e.2)])
          have HP := hid (hp_less hM.out HLn.out (2 * K + 2) (2 * K + 1) (by have := H2.out; have := HnE.out; omega) (by have := H2.out; have := HnE.out; omega) (2 * (K : Int) + 1 + 1) (2 * (K : Int) + 1) (by omega) (by omega) false hb1)
          clear h1 h2 hb1
          go_upto_region 8 with (go_at_call 155; refine HP.out.mono ?_; rintro e w2 ⟨rfl, q2, rfl⟩)
          have hM2 := hid (hM.out.drew q2)
          have he2 := hid (he.out.drewN q2)
          clear hc0 hM he
          generalize wr.drewN q2 = wx at *
          have hc0 := hM2.out.1.cell (i := 0) rfl
          have HJ : Hid (2 * K + 1 < E'.length ∧ K < E'.length ∧ 2 * K + 1 < 1000) := hid (by have := H1.out; have := HnE.out; have := HLn.out; have := H2.out; omega)
          cases hb2 : betP (nthT (E'.map TE.pl) (2 * K + 1)) (nthT (E'.map TE.pl) K) with
          | false =>
            have HQ := hid (hp_less hM2.out HLn.out (2 * K + 1) K HJ.out.1 HJ.out.2.1 (2 * (K : Int) + 1) (K : Int) (by omega) rfl false hb2)
            have HR := hid ((downP_stop (f' + 1) (E'.map TE.pl) K n (by rw [hch.out]; exact hb2)).symm.trans hF.out.1)
            clear hb2
            go_wp2_with (go_at_call 155; refine HQ.out.mono ?_; rintro e w3 ⟨rfl, q3, rfl⟩)
            go_ret
            exact ⟨_, rfl, ⟨E', hM2.out.drew q3, HR.out, hE.out.1, hE.out.2⟩, he2.out.drewN q3⟩
          | true =>
            have HQ := hid (hp_less hM2.out HLn.out (2 * K + 1) K HJ.out.1 HJ.out.2.1 (2 * (K : Int) + 1) (K : Int) (by omega) rfl true hb2)
            have HG := hid ((downP_go f' (E'.map TE.pl) K n H1.out (by rw [hch.out]; exact hb2)).symm.trans hF.out.1)
            rw [hch.out] at HG
            clear hb2
            go_wp2_with (go_at_call 155; refine HQ.out.mono ?_; rintro e w3 ⟨rfl, q3, rfl⟩)
            refine (hp_swap (hM2.out.drew q3) HTG.out HLn.out HSE.out K (2 * K + 1) HJ.out.2.1 HJ.out.1 (K : Int) (2 * (K : Int) + 1) rfl (by omega)).mono ?_
            rintro e w4 ⟨rfl, hm4, he4⟩
            have HM4 := hid hm4
            have HE4 := hid ((he2.out.drewN q3).trans he4)
            clear hm4 he4
            go_wp2_with fail
            go_roundw
            case rel => exact ⟨2 * K + 1, f', swpE E' K (2 * K + 1), val_int (by omega), HJ.out.2.2, HM4.out, ⟨by rw [swpE_pl]; exact HG.out, by have := hF.out.2; omega⟩, ⟨by rw [swpE_len]; exact hE.out.1, fun e h => hE.out.2 e (swpE_mem HJ.out.2.1 HJ.out.1 e h)⟩, HE4.out⟩
            case measure => simp [intOf]; have := HJ.out.2.2; omega
      · have h2' : decide (2 * (K : Int) + 1 + 1 < (n : Int)) = false := by simp; omega
        have hch : Hid (chP (E'.map TE.pl) K n = 2 * K + 1) := hid (by unfold chP; rw [if_neg (fun e => h2 e.1)])
        clear h1 h2
        go_upto_region 8 with fail
        have hM2 := hM
        have he2 := he
        clear hc0 hM he
        generalize wr = wx at *
        have hc0 := hM2.out.1.cell (i := 0) rfl
        have HJ : Hid (2 * K + 1 < E'.length ∧ K < E'.length ∧ 2 * K + 1 < 1000) := hid (by have := H1.out; have := HnE.out; have := HLn.out; omega)
        cases hb2 : betP (nthT (E'.map TE.pl) (2 * K + 1)) (nthT (E'.map TE.pl) K) with
        | false =>
          have HQ := hid (hp_less hM2.out HLn.out (2 * K + 1) K HJ.out.1 HJ.out.2.1 (2 * (K : Int) + 1) (K : Int) (by omega) rfl false hb2)
          have HR := hid ((downP_stop (f' + 1) (E'.map TE.pl) K n (by rw [hch.out]; exact hb2)).symm.trans hF.out.1)
          clear hb2
          go_wp2_with (go_at_call 155; refine HQ.out.mono ?_; rintro e w3 ⟨rfl, q3, rfl⟩)
          go_ret
          exact ⟨_, rfl, ⟨E', hM2.out.drew q3, HR.out, hE.out.1, hE.out.2⟩, he2.out.drewN q3⟩
        | true =>
          have HQ := hid (hp_less hM2.out HLn.out (2 * K + 1) K HJ.out.1 HJ.out.2.1 (2 * (K : Int) + 1) (K : Int) (by omega) rfl true hb2)
          have HG := hid ((downP_go f' (E'.map TE.pl) K n H1.out (by rw [hch.out]; exact hb2)).symm.trans hF.out.1)
          rw [hch.out] at HG
          clear hb2
          go_wp2_with (go_at_call 155; refine HQ.out.mono ?_; rintro e w3 ⟨rfl, q3, rfl⟩)
          refine (hp_swap (hM2.out.drew q3) HTG.out HLn.out HSE.out K (2 * K + 1) HJ.out.2.1 HJ.out.1 (K : Int) (2 * (K : Int) + 1) rfl (by omega)).mono ?_
          rintro e w4 ⟨rfl, hm4, he4⟩
          have HM4 := hid hm4
          have HE4 := hid ((he2.out.drewN q3).trans he4)
          clear hm4 he4
          go_wp2_with fail
          go_roundw
          case rel => exact ⟨2 * K + 1, f', swpE E' K (2 * K + 1), val_int (by omega), HJ.out.2.2, HM4.out, ⟨by rw [swpE_pl]; exact HG.out, by have := hF.out.2; omega⟩, ⟨by rw [swpE_len]; exact hE.out.1, fun e h => hE.out.2 e (swpE_mem HJ.out.2.1 HJ.out.1 e h)⟩, HE4.out⟩
          case measure => simp [intOf]; have := HJ.out.2.2; omega
    · have h1' : decide ((n : Int) ≤ 2 * (K : Int) + 1) = true := by simp; omega
      have HR := hid ((downP_leaf f (E'.map TE.pl) K n h1).symm.trans hF.out.1)
      clear h1
      go_wp2_with fail
      go_ret
      exact ⟨_, rfl, ⟨E', hM.out, HR.out, hE.out.1, hE.out.2⟩, he.out⟩
end Go.Proofs.YtnnakmgngkpghaaGreat
