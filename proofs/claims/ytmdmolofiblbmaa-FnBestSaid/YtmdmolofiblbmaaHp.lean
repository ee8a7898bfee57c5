/- Plain: a heap as container/heap makes it (init, up, down, push, pop), and that its run is the run of the list. -/
import Derived.Test.YtmdmolofiblbmaaTl
namespace Go.Proofs.Ytmdmolofiblbmaa
open Go.RowKit
set_option linter.unusedVariables false

/-- No worse a key. -/
def kle (x y : PT) : Prop := x.1 < y.1 ∨ (x.1 = y.1 ∧ x.2.1 ≤ y.2.1)
theorem bet_iff (x y : PT) : betP x y = true ↔ ¬ kle y x := by
  unfold betP kle
  simp only [Bool.or_eq_true, Bool.and_eq_true, decide_eq_true_eq]
  omega
theorem bet_not (x y : PT) : betP x y = false ↔ kle y x := by
  have h := bet_iff x y
  cases hb : betP x y with
  | false =>
    rw [hb] at h
    simp only [Bool.false_eq_true, false_iff] at h
    simp only [true_iff]
    exact Classical.not_not.1 h
  | true =>
    have := h.1 hb
    simp only [Bool.true_eq_false, false_iff]
    exact this
theorem kle_refl (x : PT) : kle x x := by unfold kle; omega
theorem kle_trans {x y z : PT} (h : kle x y) (k : kle y z) : kle x z := by unfold kle at *; omega
theorem kle_total (x y : PT) : kle x y ∨ kle y x := by unfold kle; omega

def swp (S : List PT) (i j : Nat) : List PT := (S.set i (nthP S j)).set j (nthP S i)
theorem swp_len (S : List PT) (i j : Nat) : (swp S i j).length = S.length := by unfold swp; simp
theorem nthP_lt {S : List PT} {i : Nat} (h : i < S.length) : nthP S i = S[i] := by unfold nthP; simp [List.getD, h]
theorem nth_set_self {S : List PT} {i : Nat} (x : PT) (h : i < S.length) : nthP (S.set i x) i = x := by unfold nthP; simp [List.getD, h]
theorem nth_set_ne {S : List PT} {i j : Nat} (x : PT) (h : i ≠ j) : nthP (S.set i x) j = nthP S j := by unfold nthP; simp [List.getD, h]
theorem swp_i {S : List PT} {i j : Nat} (hi : i < S.length) (hj : j < S.length) : nthP (swp S i j) i = nthP S j := by
  unfold swp
  by_cases e : j = i
  · subst e; rw [nth_set_self _ (by simpa using hj)]
  · rw [nth_set_ne _ e, nth_set_self _ hi]
theorem swp_j {S : List PT} {i j : Nat} (hj : j < S.length) : nthP (swp S i j) j = nthP S i := by
  unfold swp
  rw [nth_set_self _ (by simpa using hj)]
theorem swp_ne {S : List PT} {i j k : Nat} (h1 : k ≠ i) (h2 : k ≠ j) : nthP (swp S i j) k = nthP S k := by
  unfold swp
  rw [nth_set_ne _ (fun e => h2 e.symm), nth_set_ne _ (fun e => h1 e.symm)]
theorem swp_perm {S : List PT} {i j : Nat} (hi : i < S.length) (hj : j < S.length) : (swp S i j).Perm S := by
  unfold swp
  rw [nthP_lt hi, nthP_lt hj]
  exact List.set_set_perm hi hj

/-- The child that is asked. -/
def chP (S : List PT) (i n : Nat) : Nat := if 2 * i + 2 < n ∧ betP (nthP S (2 * i + 2)) (nthP S (2 * i + 1)) = true then 2 * i + 2 else 2 * i + 1
def downP : Nat → List PT → Nat → Nat → List PT
  | 0, S, _, _ => S
  | f + 1, S, i, n => if 2 * i + 1 < n then (if betP (nthP S (chP S i n)) (nthP S i) = true then downP f (swp S i (chP S i n)) (chP S i n) n else S) else S
def upP : Nat → List PT → Nat → List PT
  | 0, S, _ => S
  | f + 1, S, j => if 0 < j then (if betP (nthP S j) (nthP S ((j - 1) / 2)) = true then upP f (swp S ((j - 1) / 2) j) ((j - 1) / 2) else S) else S
theorem ch_lt {S : List PT} {i n : Nat} (h : 2 * i + 1 < n) : chP S i n < n ∧ (chP S i n = 2 * i + 1 ∨ chP S i n = 2 * i + 2) := by
  unfold chP
  split
  · rename_i h1; exact ⟨h1.1, .inr rfl⟩
  · exact ⟨h, .inl rfl⟩
/-- No child is better than the one that is asked. -/
theorem ch_best {S : List PT} {i n c : Nat} (hc : c = 2 * i + 1 ∨ c = 2 * i + 2) (hn : c < n) : kle (nthP S (chP S i n)) (nthP S c) := by
  unfold chP
  split
  · rename_i h1
    have h2 := (bet_iff _ _).1 h1.2
    rcases hc with rfl | rfl
    · rcases kle_total (nthP S (2 * i + 2)) (nthP S (2 * i + 1)) with h | h
      · exact h
      · exact absurd h h2
    · exact kle_refl _
  · rename_i h1
    rcases hc with rfl | rfl
    · exact kle_refl _
    · rcases Bool.eq_false_or_eq_true (betP (nthP S (2 * i + 2)) (nthP S (2 * i + 1))) with h | h
      · exact absurd ⟨hn, h⟩ h1
      · exact (bet_not _ _).1 h
theorem down_len : ∀ (f : Nat) (S : List PT) (i n : Nat), (downP f S i n).length = S.length
  | 0, _, _, _ => rfl
  | f + 1, S, i, n => by
    rw [downP]
    split
    · split
      · rw [down_len, swp_len]
      · rfl
    · rfl
theorem down_perm : ∀ (f : Nat) (S : List PT) (i n : Nat), n ≤ S.length → i < n → (downP f S i n).Perm S
  | 0, _, _, _, _, _ => List.Perm.refl _
  | f + 1, S, i, n, hn, hi => by
    rw [downP]
    split
    · rename_i h1
      have hc := ch_lt (S := S) h1
      split
      · exact (down_perm f _ _ n (by rw [swp_len]; exact hn) hc.1).trans (swp_perm (by omega) (by omega))
      · exact List.Perm.refl _
    · exact List.Perm.refl _
theorem down_out : ∀ (f : Nat) (S : List PT) (i n k : Nat), i < n → n ≤ k → nthP (downP f S i n) k = nthP S k
  | 0, _, _, _, _, _, _ => rfl
  | f + 1, S, i, n, k, hi, hk => by
    rw [downP]
    split
    · rename_i h1
      have hc := ch_lt (S := S) h1
      split
      · rw [down_out f _ _ n k hc.1 hk, swp_ne (by omega) (by omega)]
      · rfl
    · rfl
theorem up_len : ∀ (f : Nat) (S : List PT) (j : Nat), (upP f S j).length = S.length
  | 0, _, _ => rfl
  | f + 1, S, j => by
    rw [upP]
    split
    · split
      · rw [up_len, swp_len]
      · rfl
    · rfl
theorem up_perm : ∀ (f : Nat) (S : List PT) (j : Nat), j < S.length → (upP f S j).Perm S
  | 0, _, _, _ => List.Perm.refl _
  | f + 1, S, j, hj => by
    rw [upP]
    split
    · split
      · exact (up_perm f _ _ (by rw [swp_len]; omega)).trans (swp_perm (by omega) hj)
      · exact List.Perm.refl _
    · exact List.Perm.refl _

/-- c is a child of p. -/
def Kid (p c : Nat) : Prop := c = 2 * p + 1 ∨ c = 2 * p + 2
/-- From place m on no child is better than its parent. -/
def HeapF (S : List PT) (n m : Nat) : Prop := ∀ p c, m ≤ p → Kid p c → c < n → kle (nthP S p) (nthP S c)
/-- The same but at place i, whose children are no better than its parent. -/
def HeapX (S : List PT) (n m i : Nat) : Prop := (∀ p c, m ≤ p → p ≠ i → Kid p c → c < n → kle (nthP S p) (nthP S c)) ∧ ∀ p c, m ≤ p → Kid p i → Kid i c → c < n → kle (nthP S p) (nthP S c)
theorem down_heap : ∀ (f : Nat) (S : List PT) (i n m : Nat), n ≤ S.length → i < n → n ≤ f + i → HeapX S n m i → m ≤ i → HeapF (downP f S i n) n m
  | 0, S, i, n, m, hn, hi, hf, hx, hm => by omega
  | f + 1, S, i, n, m, hn, hi, hf, hx, hm => by
    rw [downP]
    split
    · rename_i h1
      have hc := ch_lt (S := S) h1
      have hb := fun c h1 h2 => ch_best (S := S) (i := i) (n := n) (c := c) h1 h2
      generalize chP S i n = j at *
      have hij : i < j := by omega
      split
      · rename_i h2
        have h2' : kle (nthP S j) (nthP S i) := by
          rcases kle_total (nthP S j) (nthP S i) with h | h
          · exact h
          · exact absurd h ((bet_iff _ _).1 h2)
        refine down_heap f _ j n m (by rw [swp_len]; exact hn) hc.1 (by omega) ⟨fun p c hp hne hk hcn => ?_, fun p c hp hkj hk hcn => ?_⟩ (by omega)
        · by_cases e : p = i
          · subst e
            rw [swp_i (by omega) (by omega)]
            by_cases e2 : c = j
            · subst e2
              rw [swp_j (by omega)]
              exact h2'
            · rw [swp_ne (by unfold Kid at hk; omega) e2]
              exact hb c hk hcn
          · rw [swp_ne e hne]
            by_cases e2 : c = i
            · subst e2
              rw [swp_i (by omega) (by omega)]
              exact hx.2 p j hp hk hc.2 hc.1
            · rw [swp_ne e2 (by intro e3; unfold Kid at hk; omega)]
              exact hx.1 p c hp e hk hcn
        · have ep : p = i := by unfold Kid at hkj; omega
          subst ep
          rw [swp_i (by omega) (by omega), swp_ne (by unfold Kid at hk; omega) (by unfold Kid at hk; omega)]
          exact hx.1 j c (by omega) (by omega) hk hcn
      · rename_i h2
        have h2' : kle (nthP S i) (nthP S j) := (bet_not _ _).1 (by simpa using h2)
        intro p c hp hk hcn
        by_cases e : p = i
        · subst e
          exact kle_trans h2' (hb c hk hcn)
        · exact hx.1 p c hp e hk hcn
    · rename_i h1
      intro p c hp hk hcn
      by_cases e : p = i
      · subst e
        unfold Kid at hk
        omega
      · exact hx.1 p c hp e hk hcn
/-- A heap but at place j and its parent. -/
def HeapU (S : List PT) (n j : Nat) : Prop := (∀ p c, c ≠ j → Kid p c → c < n → kle (nthP S p) (nthP S c)) ∧ ∀ p c, Kid p j → Kid j c → c < n → kle (nthP S p) (nthP S c)
theorem up_heap : ∀ (f : Nat) (S : List PT) (j : Nat), j < S.length → j < f → HeapU S S.length j → HeapF (upP f S j) S.length 0
  | 0, S, j, hj, hf, hx => by omega
  | f + 1, S, j, hj, hf, hx => by
    rw [upP]
    split
    · rename_i h0
      have hk0 : Kid ((j - 1) / 2) j := by unfold Kid; omega
      have hu : ∀ p, Kid p j → p = (j - 1) / 2 := fun p h => by unfold Kid at h; omega
      have hij : (j - 1) / 2 < j := by omega
      generalize (j - 1) / 2 = i at *
      split
      · rename_i h2
        have h2' : kle (nthP S j) (nthP S i) := by
          rcases kle_total (nthP S j) (nthP S i) with h | h
          · exact h
          · exact absurd h ((bet_iff _ _).1 h2)
        have := up_heap f (swp S i j) i (by rw [swp_len]; omega) (by omega) ?_
        · rw [swp_len] at this
          exact this
        · rw [swp_len]
          refine ⟨fun p c hne hk hcn => ?_, fun p c hkj hk hcn => ?_⟩
          · by_cases e2 : c = j
            · subst e2
              have := hu p hk
              subst this
              rw [swp_i (by omega) hj, swp_j hj]
              exact h2'
            · rw [swp_ne (k := c) hne e2]
              by_cases e : p = j
              · subst e
                rw [swp_j hj]
                exact hx.2 i c hk0 hk hcn
              · by_cases e3 : p = i
                · subst e3
                  rw [swp_i (by omega) hj]
                  exact kle_trans h2' (hx.1 p c e2 hk hcn)
                · rw [swp_ne e3 e]
                  exact hx.1 p c e2 hk hcn
          · have hpi : p < i := by unfold Kid at hkj; omega
            rw [swp_ne (k := p) (by omega) (by omega)]
            have h3 := hx.1 p i (by omega) hkj (by omega)
            by_cases e2 : c = j
            · subst e2
              rw [swp_j hj]
              exact h3
            · rw [swp_ne (k := c) (by unfold Kid at hk; omega) e2]
              exact kle_trans h3 (hx.1 i c e2 hk hcn)
      · rename_i h2
        have h2' : kle (nthP S i) (nthP S j) := (bet_not _ _).1 (by simpa using h2)
        intro p c _ hk hcn
        by_cases e : c = j
        · subst e
          rw [hu p hk]
          exact h2'
        · exact hx.1 p c e hk hcn
    · rename_i h0
      intro p c _ hk hcn
      have : c ≠ j := by unfold Kid at hk; omega
      exact hx.1 p c this hk hcn
/-- The first is the best. -/
theorem heap_root {S : List PT} {n : Nat} (h : HeapF S n 0) : ∀ k, k < n → kle (nthP S 0) (nthP S k) := by
  intro k
  induction k using Nat.strongRecOn with
  | ind k ih =>
    intro hk
    by_cases e : k = 0
    · subst e; exact kle_refl _
    · exact kle_trans (ih ((k - 1) / 2) (by omega) (by omega)) (h ((k - 1) / 2) k (by omega) (by unfold Kid; omega) hk)

/-! The heap: made, its best taken out, one put in. -/
def initH : Nat → List PT → List PT
  | 0, S => S
  | k + 1, S => initH k (downP S.length S k S.length)
theorem initH_len : ∀ (k : Nat) (S : List PT), (initH k S).length = S.length
  | 0, _ => rfl
  | k + 1, S => by rw [initH, initH_len, down_len]
theorem initH_heap : ∀ (k : Nat) (S : List PT), k ≤ S.length / 2 → HeapF S S.length k → (initH k S).Perm S ∧ HeapF (initH k S) S.length 0
  | 0, S, _, h => ⟨List.Perm.refl _, h⟩
  | k + 1, S, hk, h => by
    rw [initH]
    have hd := down_heap S.length S k S.length k (Nat.le_refl _) (by omega) (by omega) ⟨fun p c hp hne hkd hc => h p c (by omega) hkd hc, fun p c hp hpk => by unfold Kid at hpk; omega⟩ (Nat.le_refl _)
    have hl := down_len S.length S k S.length
    have ih := initH_heap k (downP S.length S k S.length) (by rw [hl]; omega) (by rw [hl]; exact hd)
    rw [hl] at ih
    exact ⟨ih.1.trans (down_perm _ _ _ _ (Nat.le_refl _) (by omega)), ih.2⟩
theorem leaf_heap (S : List PT) : HeapF S S.length (S.length / 2) := fun p c hp hk hc => by unfold Kid at hk; omega
/-- What Pop leaves, its last place still there. -/
def popS (H : List PT) : List PT := downP H.length (swp H 0 (H.length - 1)) 0 (H.length - 1)
theorem popS_len (H : List PT) : (popS H).length = H.length := by unfold popS; rw [down_len, swp_len]
theorem take_get {S : List PT} {n k : Nat} (h : k < n) : nthP (S.take n) k = nthP S k := by unfold nthP; simp [List.getD, h]
theorem popS_last {H : List PT} (h : 0 < H.length) : nthP (popS H) (H.length - 1) = nthP H 0 := by
  unfold popS
  by_cases h1 : 0 < H.length - 1
  · rw [down_out _ _ _ _ _ h1 (Nat.le_refl _), swp_j (by omega)]
  · have e : H.length - 1 = 0 := by omega
    rw [e]
    have : downP H.length (swp H 0 0) 0 0 = swp H 0 0 := by
      cases H.length with
      | zero => rfl
      | succ f => rw [downP, if_neg (by omega)]
    rw [this, swp_j h]
theorem popS_heap {H : List PT} (h : 0 < H.length) (hh : HeapF H H.length 0) : (popS H).Perm H ∧ HeapF ((popS H).take (H.length - 1)) (H.length - 1) 0 := by
  by_cases h1 : 0 < H.length - 1
  · have hp : (popS H).Perm H := (down_perm _ _ _ _ (by rw [swp_len]; omega) h1).trans (swp_perm h (by omega))
    refine ⟨hp, ?_⟩
    have hd : HeapF (popS H) (H.length - 1) 0 := down_heap _ _ 0 _ 0 (by rw [swp_len]; omega) h1 (by omega) ⟨fun p c _ hne hk hc => by
      rw [swp_ne hne (by unfold Kid at hk; omega), swp_ne (by unfold Kid at hk; omega) (by omega)]
      exact hh p c (Nat.zero_le _) hk (by omega), fun p c _ hk => by unfold Kid at hk; omega⟩ (Nat.le_refl _)
    intro p c hp hk hc
    rw [take_get (by unfold Kid at hk; omega), take_get hc]
    exact hd p c hp hk hc
  · have e : H.length - 1 = 0 := by omega
    refine ⟨?_, fun p c _ hk hc => by omega⟩
    unfold popS
    rw [e]
    have : downP H.length (swp H 0 0) 0 0 = swp H 0 0 := by
      cases H.length with
      | zero => rfl
      | succ f => rw [downP, if_neg (by omega)]
    rw [this]
    exact swp_perm h h
/-- The best, and what is left of the heap. -/
theorem pop_all {H : List PT} (h : 0 < H.length) (hh : HeapF H H.length 0) : H.Perm (nthP H 0 :: (popS H).take (H.length - 1)) ∧ HeapF ((popS H).take (H.length - 1)) ((popS H).take (H.length - 1)).length 0 ∧ ((popS H).take (H.length - 1)).length = H.length - 1 := by
  have hp := popS_heap h hh
  have hl := popS_len H
  have e1 : ((popS H).take (H.length - 1)).length = H.length - 1 := by rw [List.length_take, hl]; omega
  refine ⟨?_, by rw [e1]; exact hp.2, e1⟩
  have e2 : popS H = (popS H).take (H.length - 1) ++ [nthP H 0] := by
    rw [← popS_last h, nthP_lt (by omega)]
    have := List.take_append_getElem (l := popS H) (i := H.length - 1) (by omega)
    rw [show H.length - 1 + 1 = (popS H).length by omega, List.take_length] at this
    exact this.symm
  have h2 : (popS H).Perm (nthP H 0 :: (popS H).take (H.length - 1)) := by
    have h3 : ((popS H).take (H.length - 1) ++ [nthP H 0]).Perm (nthP H 0 :: (popS H).take (H.length - 1)) := List.perm_append_comm
    rw [← e2] at h3
    exact h3
  exact hp.1.symm.trans h2
def pushH (H : List PT) (x : PT) : List PT := upP (H.length + 1) (H ++ [x]) H.length
theorem push_all {H : List PT} (x : PT) (hh : HeapF H H.length 0) : (pushH H x).Perm (x :: H) ∧ HeapF (pushH H x) (pushH H x).length 0 ∧ (pushH H x).length = H.length + 1 := by
  have hl : (H ++ [x]).length = H.length + 1 := by simp
  have e1 : (pushH H x).length = H.length + 1 := by unfold pushH; rw [up_len, hl]
  have ha : ∀ k, k < H.length → nthP (H ++ [x]) k = nthP H k := fun k hk => by unfold nthP; simp [List.getD, List.getElem?_append, hk]
  refine ⟨?_, ?_, e1⟩
  · exact (up_perm _ _ _ (by omega)).trans List.perm_append_comm
  · have := up_heap (H.length + 1) (H ++ [x]) H.length (by omega) (by omega) ⟨fun p c hne hk hc => by
      rw [hl] at hc
      rw [ha p (by unfold Kid at hk; omega), ha c (by omega)]
      exact hh p c (Nat.zero_le _) hk (by omega), fun p c _ hk hc => by rw [hl] at hc; unfold Kid at hk; omega⟩
    rw [hl] at this
    rw [e1]
    exact this

/-! The list's least and the heap's first are one. -/
theorem leastTo_best (S : List PT) : ∀ k, leastPTo S k ≤ k ∧ ∀ j, j ≤ k → kle (nthP S (leastPTo S k)) (nthP S j)
  | 0 => ⟨Nat.le_refl _, fun j hj => by
    have e : j = 0 := Nat.le_zero.1 hj
    subst e
    exact kle_refl _⟩
  | k + 1 => by
    obtain ⟨h1, h2⟩ := leastTo_best S k
    rw [leastPTo]
    split
    · rename_i hb
      have hle : kle (nthP S (k + 1)) (nthP S (leastPTo S k)) := by
        rcases kle_total (nthP S (k + 1)) (nthP S (leastPTo S k)) with h | h
        · exact h
        · exact absurd h ((bet_iff _ _).1 hb)
      refine ⟨Nat.le_refl _, fun j hj => ?_⟩
      by_cases e : j = k + 1
      · subst e; exact kle_refl _
      · exact kle_trans hle (h2 j (by omega))
    · rename_i hb
      have hle : kle (nthP S (leastPTo S k)) (nthP S (k + 1)) := (bet_not _ _).1 (by simpa using hb)
      refine ⟨by omega, fun j hj => ?_⟩
      by_cases e : j = k + 1
      · subst e; exact hle
      · exact h2 j (by omega)
theorem least_best {S : List PT} (h : 0 < S.length) : leastP S < S.length ∧ ∀ j, j < S.length → kle (nthP S (leastP S)) (nthP S j) := by
  have := leastTo_best S (S.length - 1)
  unfold leastP
  exact ⟨by omega, fun j hj => this.2 j (by omega)⟩
/-- No two trees have one least symbol. -/
def Apart (S : List PT) : Prop := (S.map (fun x => x.2.1)).Nodup
theorem apart_inj : ∀ {S : List PT}, Apart S → ∀ {x y : PT}, x ∈ S → y ∈ S → x.2.1 = y.2.1 → x = y
  | [], _, x, _, hx, _, _ => by cases hx
  | z :: S, h, x, y, hx, hy, e => by
    unfold Apart at h
    rw [List.map_cons, List.nodup_cons] at h
    rcases List.mem_cons.1 hx with hx1 | hx1
    · subst hx1
      rcases List.mem_cons.1 hy with hy1 | hy1
      · exact hy1.symm
      · exact absurd (by rw [e]; exact List.mem_map_of_mem (f := fun x : PT => x.2.1) hy1) h.1
    · rcases List.mem_cons.1 hy with hy1 | hy1
      · subst hy1
        exact absurd (by rw [← e]; exact List.mem_map_of_mem (f := fun x : PT => x.2.1) hx1) h.1
      · exact apart_inj h.2 hx1 hy1 e
theorem Apart.perm {S R : List PT} (h : Apart S) (p : R.Perm S) : Apart R := by
  unfold Apart at *
  exact (p.map _).nodup_iff.2 h
theorem nth_mem {S : List PT} {i : Nat} (h : i < S.length) : nthP S i ∈ S := by rw [nthP_lt h]; exact List.getElem_mem h
theorem erase_perm {S : List PT} {i : Nat} (h : i < S.length) : S.Perm (nthP S i :: S.eraseIdx i) := by
  rw [List.eraseIdx_eq_take_drop_succ]
  have e : S = S.take i ++ nthP S i :: S.drop (i + 1) := by
    rw [nthP_lt h, ← List.drop_eq_getElem_cons h, List.take_append_drop]
  have h2 : (S.take i ++ nthP S i :: S.drop (i + 1)).Perm (nthP S i :: (S.take i ++ S.drop (i + 1))) := List.perm_middle
  rw [← e] at h2
  exact h2
theorem mem_nth {S : List PT} {x : PT} (h : x ∈ S) : ∃ i, i < S.length ∧ nthP S i = x := by
  obtain ⟨i, hi, e⟩ := List.getElem_of_mem h
  exact ⟨i, hi, by rw [nthP_lt hi]; exact e⟩
/-- What the heap gives out first is what the list's search finds, and the same is left. -/
theorem first_least {H L : List PT} (hp : H.Perm L) (ha : Apart L) (h0 : 0 < H.length) (hh : HeapF H H.length 0) : nthP H 0 = nthP L (leastP L) ∧ ((popS H).take (H.length - 1)).Perm (L.eraseIdx (leastP L)) := by
  have hl : 0 < L.length := by rw [← hp.length_eq]; exact h0
  obtain ⟨h1, h2⟩ := least_best hl
  have e : nthP H 0 = nthP L (leastP L) := by
    have hm : nthP H 0 ∈ L := hp.mem_iff.1 (nth_mem h0)
    have hm2 : nthP L (leastP L) ∈ H := hp.mem_iff.2 (nth_mem h1)
    obtain ⟨i, hi, ei⟩ := mem_nth hm
    obtain ⟨j, hj, ej⟩ := mem_nth hm2
    have k1 := h2 i hi
    have k2 := heap_root hh j hj
    rw [ei] at k1
    rw [ej] at k2
    exact apart_inj ha hm (nth_mem h1) (by unfold kle at k1 k2; omega)
  refine ⟨e, ?_⟩
  have p1 := (pop_all h0 hh).1
  have p2 := erase_perm h1
  rw [← e] at p2
  exact List.Perm.cons_inv (p1.symm.trans (hp.trans p2))
theorem Apart.cons_inv {x : PT} {S : List PT} (h : Apart (x :: S)) : Apart S ∧ ∀ y ∈ S, y.2.1 ≠ x.2.1 := by
  unfold Apart at *
  rw [List.map_cons, List.nodup_cons] at h
  exact ⟨h.2, fun y hy e => h.1 (by rw [← e]; exact List.mem_map_of_mem hy)⟩
/-- The heap's run. -/
def runH : Nat → List PT → List Int → List Int
  | 0, _, l => l
  | f + 1, H, l => if 1 < H.length then
      runH f (pushH ((popS ((popS H).take (H.length - 1))).take (((popS H).take (H.length - 1)).length - 1)) (mergeP (nthP H 0) (nthP ((popS H).take (H.length - 1)) 0)))
        (bumpTo l ((nthP H 0).2.2 ++ (nthP ((popS H).take (H.length - 1)) 0).2.2) ((nthP H 0).2.2 ++ (nthP ((popS H).take (H.length - 1)) 0).2.2).length) else l
theorem run_eq : ∀ (f : Nat) (H L : List PT) (l : List Int), H.Perm L → Apart L → HeapF H H.length 0 → runH f H l = runP f L l
  | 0, _, _, _, _, _, _ => rfl
  | f + 1, H, L, l, hp, ha, hh => by
    have hlen := hp.length_eq
    rw [runH, runP, hlen]
    by_cases h1 : 1 < L.length
    · rw [if_pos h1, if_pos h1]
      obtain ⟨e1, p1⟩ := first_least hp ha (by omega) hh
      obtain ⟨q1, hh1, l1⟩ := pop_all (H := H) (by omega) hh
      have ha1 : Apart (L.eraseIdx (leastP L)) ∧ ∀ y ∈ L.eraseIdx (leastP L), y.2.1 ≠ (nthP L (leastP L)).2.1 := Apart.cons_inv (ha.perm (erase_perm (least_best (S := L) (by omega)).1).symm)
      rw [← hlen]
      generalize (popS H).take (H.length - 1) = H1 at *
      have hlen1 := p1.length_eq
      obtain ⟨e2, p2⟩ := first_least p1 ha1.1 (by omega) hh1
      obtain ⟨q2, hh2, l2⟩ := pop_all (H := H1) (by omega) hh1
      have hb2 := least_best (S := L.eraseIdx (leastP L)) (by omega)
      have ha2 := Apart.cons_inv (ha1.1.perm (erase_perm hb2.1).symm)
      generalize (popS H1).take (H1.length - 1) = H2 at *
      obtain ⟨q3, hh3, l3⟩ := push_all (mergeP (nthP H 0) (nthP H1 0)) hh2
      show runH f _ _ = runP f ((L.eraseIdx (leastP L)).eraseIdx (leastP (L.eraseIdx (leastP L))) ++ [mergeP (nthP L (leastP L)) (nthP (L.eraseIdx (leastP L)) (leastP (L.eraseIdx (leastP L))))]) (bumpTo l (mergeP (nthP L (leastP L)) (nthP (L.eraseIdx (leastP L)) (leastP (L.eraseIdx (leastP L))))).2.2 (mergeP (nthP L (leastP L)) (nthP (L.eraseIdx (leastP L)) (leastP (L.eraseIdx (leastP L))))).2.2.length)
      have hnm : nthP (L.eraseIdx (leastP L)) (leastP (L.eraseIdx (leastP L))) ∈ L.eraseIdx (leastP L) := nth_mem hb2.1
      have hmem : ∀ y ∈ (L.eraseIdx (leastP L)).eraseIdx (leastP (L.eraseIdx (leastP L))), y ∈ L.eraseIdx (leastP L) := fun y hy => List.mem_of_mem_eraseIdx hy
      rw [← e1, ← e2] at *
      refine run_eq f _ _ _ ?_ ?_ hh3
      · exact q3.trans ((List.Perm.cons _ p2).trans (List.perm_append_comm (l₁ := [_])))
      · refine Apart.perm (S := mergeP (nthP H 0) (nthP H1 0) :: (L.eraseIdx (leastP L)).eraseIdx (leastP (L.eraseIdx (leastP L)))) ?_ List.perm_append_comm
        unfold Apart
        rw [List.map_cons, List.nodup_cons]
        refine ⟨fun hin => ?_, ha2.1⟩
        obtain ⟨y, hy, ey⟩ := List.mem_map.1 hin
        have n1 := ha1.2 y (hmem y hy)
        have n2 := ha2.2 y hy
        unfold mergeP at ey
        simp only at ey
        split at ey <;> omega
    · rw [if_neg h1, if_neg h1]
end Go.Proofs.Ytmdmolofiblbmaa
