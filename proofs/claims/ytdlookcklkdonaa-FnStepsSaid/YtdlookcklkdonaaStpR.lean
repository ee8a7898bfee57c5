/- Plain facts on steps that are read: the reader of the program takes just the steps that the specification takes. -/
import Derived.Test.YtdlookcklkdonaaStpS
import Derived.Test.YtdlookcklkdonaaSzBack
namespace Go.Proofs.Ytdlookcklkdonaa
open Go.RowKit
set_option linter.unusedVariables false

/-- Whether bits are a rest can be decided. -/
def decGood (n : Int) (xs : List Int) : Decidable (GoodRest n xs) :=
  decidable_of_iff ((0 ≤ n ∧ n ≤ 11) ∧ (xs.length : Int) = n ∧ ∀ j, j < xs.length → xs.getD j 0 = 0 ∨ xs.getD j 0 = 1) Iff.rfl
/-- The program's reader takes a step: the numbers so far, and whether the last step was a skip. -/
def takeR (st : List Int × Bool) (s : Int × Int × List Int) : Option (List Int × Bool) :=
  haveI := decGood s.2.1 s.2.2
  if ¬ GoodRest s.2.1 s.2.2 ∨ st.1.length = 63 then none
  else if s.1 < 0 ∨ 15 < s.1 ∨ 10 < s.2.1 then none
  else if 0 < s.2.1 then (if (st.1.length : Int) + s.1 < 63 then some (st.1 ++ List.replicate s.1.toNat 0 ++ [frv s.2.2], false) else none)
  else if s.1 = 15 then (if st.1.length + 16 < 63 then some (st.1 ++ List.replicate 16 0, true) else none)
  else if s.1 = 0 then (if st.2 = true then none else some (st.1 ++ List.replicate (63 - st.1.length) 0, false))
  else none
/-- The reader after the first k steps. -/
def readTo (L : List (Int × Int × List Int)) : Nat → Option (List Int × Bool)
  | 0 => some ([], false)
  | k + 1 => (readTo L k).bind fun st => takeR st (nthS L k)
/-- What the program reads. -/
def fromR (dc : Int) (L : List (Int × Int × List Int)) : Option (List Int) :=
  if inC dc = true then (readTo L L.length).bind fun st => if st.1.length = 63 then some st.1 else none else none
/-- The specification reads a step. -/
def acStep (o : List Int) (s : Int × Int × List Int) : List Int :=
  haveI := decGood s.2.1 s.2.2
  if 64 ≤ o.length then o
  else if GoodRest s.2.1 s.2.2 ∧ (0 < s.2.1 ∨ s.1 = 15) then o ++ List.replicate (min s.1.toNat (64 - o.length)) 0 ++ [frv s.2.2]
  else o ++ List.replicate (min s.1.toNat (64 - o.length)) 0
/-- The numbers that the specification reads from the first k steps. -/
def acTo (L : List (Int × Int × List Int)) : Nat → List Int
  | 0 => []
  | k + 1 => acStep (acTo L k) (nthS L k)
def acOf (L : List (Int × Int × List Int)) : List Int := acTo L L.length ++ List.replicate (63 - (acTo L L.length).length) 0

theorem getD_of_take {xs ac : List Int} (h : xs.take ac.length = ac) (i : Nat) (hi : i < ac.length) : xs.getD i 0 = ac.getD i 0 := by
  rw [← h]
  simp [List.getD, List.getElem?_take] at *
  have : i < ac.length := hi
  simp [this]
theorem take_prefix {xs a b : List Int} (h : xs.take (a ++ b).length = a ++ b) : xs.take a.length = a := by
  have := congrArg (List.take a.length) h
  rw [List.take_take, List.take_left', List.length_append, Nat.min_eq_left (by omega)] at this
  · exact this
  · rfl
theorem getD_zeros (a : List Int) (n i : Nat) : (a ++ List.replicate n (0 : Int)).getD (a.length + i) 0 = 0 := by
  simp only [List.getD]
  rw [List.getElem?_append_right (by omega), Nat.add_sub_cancel_left, List.getElem?_replicate]
  split <;> rfl
theorem stepTo_zeros (xs : List Int) (n : Nat) : ∀ r, (∀ i, i < r → xs.getD (n + i) 0 = 0) → stepTo xs (n + r) = ((stepTo xs n).1, (stepTo xs n).2 + r)
  | 0, _ => rfl
  | r + 1, h => by
    rw [← Nat.add_assoc, stepTo_zero xs (n + r) (h r (by omega)), stepTo_zeros xs n r (fun i hi => h i (by omega))]
    simp [Nat.add_assoc]
theorem take_snoc (L : List (Int × Int × List Int)) (k : Nat) (h : k < L.length) : L.take (k + 1) = L.take k ++ [nthS L k] := by
  rw [List.take_succ_eq_append_getElem h]
  simp [nthS, List.getD, h]
theorem inC_of (x : Int) (h : -1023 ≤ x ∧ x ≤ 1023) : inC x = true := by simpa [inC] using h
theorem sz_small (x : Int) (h : -2047 ≤ x ∧ x ≤ 2047) : sz x ≤ 10 ↔ -1023 ≤ x ∧ x ≤ 1023 := by
  rw [sz_in h]
  have := (bitLen_at x.natAbs 10 (by omega) (by omega)).1
  have h2 := (bitLen_at x.natAbs 10 (by omega) (by omega)).2
  rw [show (2 : Nat) ^ 10 = 1024 by decide] at this
  omega
theorem sz_pos (x : Int) (h : -2047 ≤ x ∧ x ≤ 2047) : 0 < sz x ↔ x ≠ 0 := by
  rw [sz_in h]
  have := (bitLen_at x.natAbs 0 (by omega) (by omega)).1
  rw [show (2 : Nat) ^ 0 = 1 by decide] at this
  omega
theorem goodNil : GoodRest 0 [] := ⟨by decide, rfl, fun j hj => by simp at hj⟩
theorem frvNil : frv [] = 0 := by simp [frv, num]
theorem good_nil {xs : List Int} (h : GoodRest 0 xs) : xs = [] := List.length_eq_zero_iff.1 (by have := h.2.1; omega)
/-- A rest of n bits, n from 1 to 10, is that of the number. -/
theorem good_num {n : Int} {xs : List Int} (h : GoodRest n xs) (h0 : 0 < n) (h1 : n ≤ 10) : sz (frv xs) = n ∧ restL (frv xs) = xs ∧ frv xs ≠ 0 ∧ -1023 ≤ frv xs ∧ frv xs ≤ 1023 := by
  obtain ⟨hn, hl, hall⟩ := h
  obtain ⟨hin, hs, hr⟩ := from_back xs hall (by omega) (by omega)
  have hs' : sz (frv xs) = n := by rw [hs]; exact hl
  exact ⟨hs', hr, (sz_pos _ hin).1 (by omega), (sz_small _ hin).1 (by omega)⟩

/-- What stands behind k steps that the program took. -/
def OpenI (L : List (Int × Int × List Int)) (k : Nat) (ac : List Int) (sk : Bool) : Prop :=
  acTo L k = ac ∧ ac.length ≤ 63 ∧ (∀ x ∈ ac, -1023 ≤ x ∧ x ≤ 1023) ∧ ∃ (S : List (Int × Int × List Int)) (m : Nat), L.take k = S ++ List.replicate m skip ∧ (∀ xs : List Int, xs.take ac.length = ac → stepTo xs ac.length = (S, 16 * m)) ∧ (sk = false → m = 0) ∧ (ac.length = 63 → m = 0)
def ShutI (L : List (Int × Int × List Int)) (k : Nat) (ac : List Int) : Prop :=
  ac.length = 63 ∧ ac = acTo L k ++ List.replicate (63 - (acTo L k).length) 0 ∧ (∀ x ∈ ac, -1023 ≤ x ∧ x ≤ 1023) ∧ stepsOf ac = L.take k

theorem take_inv (L : List (Int × Int × List Int)) : ∀ k ac sk, k ≤ L.length → readTo L k = some (ac, sk) → OpenI L k ac sk ∨ ShutI L k ac
  | 0, ac, sk, _, h => by
    simp only [readTo, Option.some.injEq, Prod.mk.injEq] at h
    obtain ⟨rfl, rfl⟩ := h
    exact .inl ⟨rfl, by simp, by simp, [], 0, rfl, fun xs _ => rfl, fun _ => rfl, fun _ => rfl⟩
  | k + 1, ac, sk, hk, h => by
    rw [readTo] at h
    obtain ⟨⟨a0, s0⟩, h1, h2⟩ := Option.bind_eq_some_iff.1 h
    have ih := take_inv L k a0 s0 (by omega) h1
    have ht := take_snoc L k (by omega)
    have hac : acTo L (k + 1) = acStep (acTo L k) (nthS L k) := rfl
    generalize nthS L k = s at *
    obtain ⟨r, n, bits⟩ := s
    unfold takeR at h2
    unfold acStep at hac
    simp only at h2 hac
    split at h2
    · cases h2
    rename_i hc1
    have hgood : GoodRest n bits := Classical.not_not.1 fun e => hc1 (.inl e)
    have hne : a0.length ≠ 63 := fun e => hc1 (.inr e)
    rcases ih with ⟨i1, i2, i3, S, m, i4, i5, i6, i7⟩ | ⟨i1, _⟩
    · rw [i1] at hac
      rw [if_neg (by omega)] at hac
      split at h2
      · cases h2
      rename_i hc2
      by_cases hn : 0 < n
      · rw [if_pos hn] at h2
        obtain ⟨g1, g2, g3, g4⟩ := good_num hgood hn (by omega)
        split at h2
        · rename_i hroom
          simp only [Option.some.injEq, Prod.mk.injEq] at h2
          obtain ⟨rfl, rfl⟩ := h2
          obtain ⟨q, rfl⟩ : ∃ q : Nat, r = q := ⟨r.toNat, by omega⟩
          simp only [Int.toNat_natCast] at *
          rw [if_pos ⟨hgood, .inl hn⟩, Nat.min_eq_left (by omega)] at hac
          refine .inl ⟨hac, by simp; omega, ?_, S ++ List.replicate m skip ++ [((q : Int), n, bits)], 0, by rw [ht, i4]; simp, fun xs hx => ?_, fun _ => rfl, fun _ => rfl⟩
          · intro x hx
            simp only [List.mem_append, List.mem_singleton] at hx
            rcases hx with (hx | hx) | hx
            · exact i3 x hx
            · rw [(List.mem_replicate.1 hx).2]; omega
            · rw [hx]; exact g4
          · have hx1 : xs.take (a0 ++ List.replicate q 0).length = a0 ++ List.replicate q 0 := take_prefix hx
            have hx0 : xs.take a0.length = a0 := take_prefix hx1
            have hz : ∀ i, i < q → xs.getD (a0.length + i) 0 = 0 := fun i hi => by
              rw [getD_of_take hx1 _ (by simp; omega)]
              exact getD_zeros a0 q i
            have hl : xs.getD (a0.length + q) 0 = frv bits := by
              rw [getD_of_take hx _ (by simp)]
              simp only [List.getD]
              rw [List.getElem?_append_right (by simp)]
              simp
            have e1 := stepTo_zeros xs a0.length q hz
            rw [i5 xs hx0] at e1
            have e2 := stepTo_num xs (a0.length + q) (by rw [hl]; exact g3)
            rw [e1, hl, g1, g2] at e2
            have hlen9 : (a0 ++ List.replicate q (0 : Int) ++ [frv bits]).length = a0.length + q + 1 := by simp [Nat.add_assoc]
            rw [hlen9, e2]
            have d1 : (16 * m + q) / 16 = m := by omega
            have d2 : (16 * m + q) % 16 = q := by omega
            simp only [d1, d2, Nat.mul_zero]
        · cases h2
      · have hn0 : n = 0 := by have := hgood.1; omega
        subst hn0
        have hbn := good_nil hgood
        subst hbn
        rw [if_neg hn] at h2
        by_cases hr : r = 15
        · subst hr
          rw [if_pos rfl] at h2
          split at h2
          · rename_i hroom
            simp only [Option.some.injEq, Prod.mk.injEq] at h2
            obtain ⟨rfl, rfl⟩ := h2
            rw [if_pos ⟨hgood, .inr rfl⟩, frvNil, show min (Int.toNat 15) (64 - a0.length) = 15 by show min 15 (64 - a0.length) = 15; omega] at hac
            refine .inl ⟨?_, by simp; omega, ?_, S, m + 1, by rw [ht, i4, List.replicate_succ', List.append_assoc]; rfl, fun xs hx => ?_, (fun e => by cases e), (fun e => by simp only [List.length_append, List.length_replicate] at e; omega)⟩
            · rw [hac, List.append_assoc, ← List.replicate_succ']
            · intro x hx
              simp only [List.mem_append] at hx
              rcases hx with hx | hx
              · exact i3 x hx
              · rw [(List.mem_replicate.1 hx).2]; omega
            · have hx0 : xs.take a0.length = a0 := take_prefix hx
              have hz : ∀ i, i < 16 → xs.getD (a0.length + i) 0 = 0 := fun i hi => by
                rw [getD_of_take hx _ (by simp; omega)]
                exact getD_zeros a0 16 i
              have e1 := stepTo_zeros xs a0.length 16 hz
              rw [i5 xs hx0] at e1
              rw [show (a0 ++ List.replicate 16 (0 : Int)).length = a0.length + 16 by simp, e1]
              simp only [Nat.mul_add, Nat.mul_one]
          · cases h2
        · rw [if_neg hr] at h2
          by_cases hr0 : r = 0
          · subst hr0
            rw [if_pos rfl] at h2
            split at h2
            · cases h2
            · rename_i hsk
              simp only [Option.some.injEq, Prod.mk.injEq] at h2
              obtain ⟨rfl, rfl⟩ := h2
              have hm : m = 0 := i6 (by simpa using hsk)
              subst hm
              rw [if_neg (by omega), show min (Int.toNat 0) (64 - a0.length) = 0 by simp] at hac
              have hac' : acTo L (k + 1) = a0 := by rw [hac]; simp
              have hlen : (a0 ++ List.replicate (63 - a0.length) (0 : Int)).length = 63 := by simp; omega
              refine .inr ⟨hlen, by rw [hac'], ?_, ?_⟩
              · intro x hx
                simp only [List.mem_append] at hx
                rcases hx with hx | hx
                · exact i3 x hx
                · rw [(List.mem_replicate.1 hx).2]; omega
              · have hx0 : (a0 ++ List.replicate (63 - a0.length) (0 : Int)).take a0.length = a0 := by simp
                have hz : ∀ i, i < 63 - a0.length → (a0 ++ List.replicate (63 - a0.length) (0 : Int)).getD (a0.length + i) 0 = 0 := fun i _ => getD_zeros a0 _ i
                have e1 := stepTo_zeros _ a0.length (63 - a0.length) hz
                rw [i5 _ hx0, show a0.length + (63 - a0.length) = 63 by omega] at e1
                unfold stepsOf
                rw [e1, if_pos (by show 0 < 16 * 0 + (63 - a0.length); omega), ht, i4]
                simp
          · rw [if_neg hr0] at h2
            cases h2
    · exact absurd i1 hne

/-- What the program takes, the specification takes, and they read the same. -/
theorem from_spec (dc : Int) (L : List (Int × Int × List Int)) (ac : List Int) (h : fromR dc L = some ac) : acOf L = ac ∧ blkOk dc ac = true ∧ stepsR dc ac = L := by
  unfold fromR at h
  split at h
  · rename_i hdc
    obtain ⟨⟨a0, s0⟩, h1, h2⟩ := Option.bind_eq_some_iff.1 h
    simp only at h2
    split at h2
    · rename_i hlen
      simp only [Option.some.injEq] at h2
      subst h2
      have hcoef : ∀ ac : List Int, ac.length = 63 → (∀ x ∈ ac, -1023 ≤ x ∧ x ≤ 1023) → blkOk dc ac = true := by
        intro ac hl hall
        unfold blkOk
        rw [hdc, Bool.true_and]
        simp only [hl, decide_true, Bool.true_and]
        have : ∀ k, k ≤ 63 → coefTo ac k = true := by
          intro k
          induction k with
          | zero => intro _; rfl
          | succ k ih =>
            intro hk
            rw [coefTo, ih (by omega), Bool.true_and]
            refine inC_of _ (hall _ ?_)
            simp only [List.getD]
            rw [List.getElem?_eq_getElem (by omega)]
            exact List.getElem_mem _
        exact this 63 (Nat.le_refl _)
      rcases take_inv L L.length a0 s0 (Nat.le_refl _) h1 with ⟨i1, i2, i3, S, m, i4, i5, i6, i7⟩ | ⟨i1, i2, i3, i4⟩
      · have hb := hcoef a0 hlen i3
        refine ⟨by unfold acOf; rw [i1, hlen]; simp, hb, ?_⟩
        have hm := i7 hlen
        subst hm
        have e := i5 a0 (by simp)
        rw [hlen] at e
        unfold stepsR stepsOf
        rw [if_pos hb, e, if_neg (by show ¬ 0 < 16 * 0; omega)]
        simp only [List.take_length, List.replicate_zero, List.append_nil] at i4
        exact i4.symm
      · have hb := hcoef a0 i1 i3
        refine ⟨by unfold acOf; exact i2.symm, hb, ?_⟩
        unfold stepsR
        rw [if_pos hb, i4, List.take_length]
    · cases h2
  · cases h

theorem readTo_left (S : List (Int × Int × List Int)) (x : Int × Int × List Int) : ∀ k, k ≤ S.length → readTo (S ++ [x]) k = readTo S k
  | 0, _ => rfl
  | k + 1, h => by rw [readTo, readTo, readTo_left S x k (by omega), nthS_left S x k (by omega)]
theorem read_snoc (S : List (Int × Int × List Int)) (x : Int × Int × List Int) : readTo (S ++ [x]) (S ++ [x]).length = (readTo S S.length).bind fun st => takeR st x := by
  rw [List.length_append, List.length_singleton, readTo, readTo_left S x _ (Nat.le_refl _), nthS_last]
theorem takeR_skip (ac : List Int) (sk : Bool) (h : ac.length + 16 < 63) : takeR (ac, sk) skip = some (ac ++ List.replicate 16 0, true) := by
  unfold takeR skip
  rw [if_neg (by rintro (e | e); exact e goodNil; simp only at e; omega), if_neg (by simp), if_neg (by simp), if_pos rfl, if_pos h]
theorem takeR_end (ac : List Int) (h : ac.length < 63) : takeR (ac, false) (0, 0, []) = some (ac ++ List.replicate (63 - ac.length) 0, false) := by
  unfold takeR
  rw [if_neg (by rintro (e | e); exact e goodNil; simp only at e; omega), if_neg (by simp), if_neg (by simp), if_neg (by simp), if_pos rfl, if_neg (by simp)]
theorem takeR_num (ac : List Int) (sk : Bool) (r : Nat) (x : Int) (hr : r < 16) (hx : x ≠ 0) (h0 : -1023 ≤ x ∧ x ≤ 1023) (h : ac.length + r < 63) : takeR (ac, sk) ((r : Int), sz x, restL x) = some (ac ++ List.replicate r 0 ++ [x], false) := by
  have hin : -2047 ≤ x ∧ x ≤ 2047 := by omega
  obtain ⟨b1, b2, b3⟩ := rest_back x hin
  have s1 := (sz_small x hin).2 h0
  have s2 := (sz_pos x hin).2 hx
  have hg : GoodRest (sz x) (restL x) := ⟨by omega, b2, b1⟩
  unfold takeR
  rw [if_neg (by rintro (e | e); exact e hg; simp only at e; omega), if_neg (by simp only; omega), if_pos s2, if_pos (by simp only; omega)]
  simp only [Int.toNat_natCast, b3]
theorem take_zeros (xs : List Int) (n r : Nat) (hn : n + r ≤ xs.length) (h : ∀ i, i < r → xs.getD (n + i) 0 = 0) : xs.take n ++ List.replicate r 0 = xs.take (n + r) := by
  refine list_eq_of_getD (by simp; omega) fun i hi => ?_
  simp only [List.length_append, List.length_take, List.length_replicate] at hi
  by_cases e : i < n
  · simp only [List.getD]
    rw [List.getElem?_append_left (by simp; omega), List.getElem?_take, List.getElem?_take, if_pos e, if_pos (by omega)]
  · have hl : (xs.take n).length = n := by simp; omega
    have := getD_zeros (xs.take n) r (i - n)
    rw [hl, show n + (i - n) = i by omega] at this
    rw [this]
    have h2 := h (i - n) (by omega)
    rw [show n + (i - n) = i by omega] at h2
    simp only [List.getD] at h2 ⊢
    rw [List.getElem?_take, if_pos (by omega)]
    exact h2.symm

/-- The steps of a right block are read, and give the block. -/
theorem read_steps (xs : List Int) (hl : xs.length = 63) (hin : ∀ k, k < 63 → -1023 ≤ xs.getD k 0 ∧ xs.getD k 0 ≤ 1023) : ∀ k, k ≤ 63 →
    readTo (stepTo xs k).1 (stepTo xs k).1.length = some (xs.take (k - (stepTo xs k).2), false) ∧ (stepTo xs k).2 ≤ k ∧ ∀ i, i < (stepTo xs k).2 → xs.getD (k - (stepTo xs k).2 + i) 0 = 0
  | 0, _ => ⟨by simp [stepTo, readTo], by simp [stepTo], fun i hi => by simp [stepTo] at hi⟩
  | k + 1, hk => by
    obtain ⟨h1, h2, h3⟩ := read_steps xs hl hin k (by omega)
    by_cases hz : xs.getD k 0 = 0
    · rw [stepTo_zero xs k hz]
      generalize (stepTo xs k).1 = S at *
      generalize (stepTo xs k).2 = r at *
      simp only
      rw [show k + 1 - (r + 1) = k - r by omega]
      refine ⟨h1, by omega, fun i hi => ?_⟩
      by_cases e : i < r
      · exact h3 i e
      · rw [show k - r + i = k by omega]; exact hz
    · rw [stepTo_num xs k hz]
      generalize (stepTo xs k).1 = S at *
      generalize (stepTo xs k).2 = r at *
      simp only
      refine ⟨?_, by omega, fun i hi => by omega⟩
      have hsk : ∀ j, 16 * j ≤ r → ∃ sk, readTo (S ++ List.replicate j skip) (S ++ List.replicate j skip).length = some (xs.take (k - r + 16 * j), sk) := by
        intro j
        induction j with
        | zero => intro _; exact ⟨false, by simpa using h1⟩
        | succ j ih =>
          intro hj
          obtain ⟨sk, e⟩ := ih (by omega)
          refine ⟨true, ?_⟩
          rw [List.replicate_succ', ← List.append_assoc, read_snoc, e]
          show takeR (xs.take (k - r + 16 * j), sk) skip = _
          rw [takeR_skip _ _ (by simp; omega), take_zeros xs (k - r + 16 * j) 16 (by omega) (fun i hi => by rw [Nat.add_assoc]; exact h3 _ (by omega)), show k - r + 16 * (j + 1) = k - r + 16 * j + 16 by omega]
      obtain ⟨sk, e⟩ := hsk (r / 16) (by omega)
      rw [read_snoc, e]
      show takeR (xs.take (k - r + 16 * (r / 16)), sk) _ = _
      have hlt : (xs.take (k - r + 16 * (r / 16))).length = k - r + 16 * (r / 16) := by simp; omega
      rw [takeR_num _ _ (r % 16) (xs.getD k 0) (by omega) hz (hin k (by omega)) (by rw [hlt]; omega), take_zeros xs (k - r + 16 * (r / 16)) (r % 16) (by omega) (fun i hi => by rw [Nat.add_assoc]; exact h3 _ (by omega)), show k - r + 16 * (r / 16) + r % 16 = k by omega, Nat.sub_zero, List.take_succ_eq_append_getElem (by omega)]
      simp [List.getD, show k < xs.length by omega]

/-- What the specification takes, the program takes. -/
theorem spec_from_ok (dc : Int) (L : List (Int × Int × List Int)) (xs : List Int) (hb : blkOk dc xs = true) (hs : stepsR dc xs = L) : fromR dc L = some xs := by
  unfold stepsR at hs
  rw [if_pos hb] at hs
  unfold blkOk at hb
  simp only [Bool.and_eq_true, decide_eq_true_eq] at hb
  obtain ⟨hdc, hl, hco⟩ := hb
  have hin : ∀ k, k < 63 → -1023 ≤ xs.getD k 0 ∧ xs.getD k 0 ≤ 1023 := fun k hk => by simpa [inC] using coefTo_at xs 63 hco k hk
  obtain ⟨h1, h2, h3⟩ := read_steps xs hl hin 63 (Nat.le_refl _)
  have hall : xs.take 63 = xs := by rw [← hl]; exact List.take_length
  unfold fromR
  rw [if_pos hdc, ← hs]
  unfold stepsOf
  generalize (stepTo xs 63).1 = S at *
  generalize (stepTo xs 63).2 = r at *
  by_cases hr : 0 < r
  · rw [if_pos hr, read_snoc, h1]
    show Option.bind (takeR (xs.take (63 - r), false) (0, 0, [])) _ = _
    have hlt : (xs.take (63 - r)).length = 63 - r := by simp; omega
    rw [takeR_end _ (by omega), hlt, take_zeros xs (63 - r) (63 - (63 - r)) (by omega) (fun i hi => h3 i (by omega)), show 63 - r + (63 - (63 - r)) = 63 by omega, hall]
    show (if xs.length = 63 then some xs else none) = some xs
    rw [if_pos hl]
  · rw [if_neg hr, h1]
    have : r = 0 := by omega
    subst this
    show (if (xs.take (63 - 0)).length = 63 then some (xs.take (63 - 0)) else none) = some xs
    rw [Nat.sub_zero, hall, if_pos hl]

/-- What the specification reads. -/
def specR (dc : Int) (L : List (Int × Int × List Int)) : Option (List Int) := if blkOk dc (acOf L) = true ∧ stepsR dc (acOf L) = L then some (acOf L) else none
theorem specR_eq (dc : Int) (L : List (Int × Int × List Int)) : specR dc L = fromR dc L := by
  unfold specR
  split
  · rename_i h
    exact (spec_from_ok dc L _ h.1 h.2).symm
  · rename_i h
    cases e : fromR dc L with
    | none => rfl
    | some ac =>
      obtain ⟨h1, h2, h3⟩ := from_spec dc L ac e
      exact absurd ⟨by rw [h1]; exact h2, by rw [h1]; exact h3⟩ h
end Go.Proofs.Ytdlookcklkdonaa
