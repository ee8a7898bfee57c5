/- Plain: what a reader and a model are behind the decisions that were read. No machine in it. -/
import Derived.Test.YtimafabbepgifaaPp
import Derived.Test.YtimafabbepgifaaRg
namespace Go.Proofs.Ytimafabbepgifaa
open Go.RowKit
set_option linter.unusedVariables false

/-- A reader, but its text, and the chances. -/
structure GS where
  lo : Int
  hi : Int
  co : Int
  i : Int
  ch : List Int
/-- The chance of the next decision; what get answers with it; the state behind a bit. -/
def gP (B : Nat) (st : GS) (s : Wk) : Int := st.ch.getD (B + (wkSlot s).toNat) 0
def gG (B : Nat) (t : ByteArray) (st : GS) (s : Wk) : Int × Int × Int × Int × Int := gR st.lo st.hi st.co t st.i (gP B st s)
def gN (B : Nat) (t : ByteArray) (st : GS) (s : Wk) : GS := ⟨(gG B t st s).2.1, (gG B t st s).2.2.1, (gG B t st s).2.2.2.1, (gG B t st s).2.2.2.2, st.ch.set (B + (wkSlot s).toNat) (lrn (gP B st s) (gG B t st s).1)⟩
/-- A number is read: none where a bit is lacking. -/
def getF (B : Nat) (t : ByteArray) : Nat → GS → Wk → Option (GS × Wk)
  | 0, st, s => some (st, s)
  | f + 1, st, s => if s.part = 4 then some (st, s) else if (gG B t st s).1 < 0 then none else getF B t f (gN B t st s) (wkTake s (gG B t st s).1)
/-- How many decisions may still come. -/
def rank (p n r : Int) : Nat := if p = 0 then 31 else if p = 1 then 30 else if p = 2 then (29 - n).toNat else if p = 3 then (n - 1 - r).toNat else 0
theorem rank_take {s : Wk} (h : WkOk s) (h4 : s.part ≠ 4) {x : Int} (hx : x = 0 ∨ x = 1) : rank (wkTake s x).part (wkTake s x).size (wkTake s x).rest < rank s.part s.size s.rest := by
  rcases h with ⟨h1, rfl⟩ | ⟨h1, h2, h3, h5⟩ | ⟨h1, h2, h3, h5, h6⟩ | ⟨h1, h2, h3, h5, h6, h7, h8⟩ | ⟨h1, h2, h3⟩
  · rcases hx with rfl | rfl <;> decide
  · obtain ⟨sa, sb', sc, sd, se⟩ := s
    simp only at h1 h2 h3 h5
    subst h1 h2 h3 h5
    rcases hx with rfl | rfl
    · show rank 2 1 0 < rank 1 1 0; decide
    · show rank 2 1 0 < rank 1 1 0; decide
  · obtain ⟨sa, sb', sc, sd, se⟩ := s
    simp only at h1 h2 h3 h5 h6
    subst h1 h5 h6
    have hr : rank 2 sc 0 = (29 - sc).toNat := rfl
    unfold wkTake wkStep
    rw [if_neg (by show ¬ (2 : Int) = 0; decide), if_neg (by show ¬ (2 : Int) = 1; decide), if_pos rfl]
    simp only
    rw [hr]
    by_cases e : x = 0 ∨ sc + x = 11
    · rw [if_pos e]
      unfold wkEnd
      split
      · show rank 4 _ _ < _
        simp [rank]
        omega
      · show rank 3 (sc + x) 0 < _
        simp [rank]
        omega
    · rw [if_neg e]
      unfold wkEnd
      rw [if_neg (fun h => absurd (show (2 : Int) = 3 from h.1) (by decide))]
      show rank 2 (sc + x) 0 < _
      simp [rank]
      omega
  · obtain ⟨sa, sb', sc, sd, se⟩ := s
    simp only at h1 h2 h3 h5 h6 h7 h8
    subst h1
    have hr : rank 3 sc se = (sc - 1 - se).toNat := rfl
    unfold wkTake wkStep
    rw [if_neg (by show ¬ (3 : Int) = 0; decide), if_neg (by show ¬ (3 : Int) = 1; decide), if_neg (by show ¬ (3 : Int) = 2; decide), if_pos rfl]
    simp only
    rw [hr]
    unfold wkEnd
    split
    · show rank 4 _ _ < _
      simp [rank]
      omega
    · show rank 3 sc (se + 1) < _
      simp [rank]
      omega
  · exact absurd h1 h4
theorem rank_pos {s : Wk} (h : WkOk s) (h4 : s.part ≠ 4) : 0 < rank s.part s.size s.rest := by
  have := rank_take h h4 (.inl rfl : (0 : Int) = 0 ∨ (0 : Int) = 1)
  omega
structure GsOk (N : Nat) (st : GS) : Prop where
  wl : W32 st.lo
  wh : W32 st.hi
  wc : W32 st.co
  ln : st.ch.length = N
  ch : ∀ x ∈ st.ch, isCh x = true
theorem gR_word {lo hi co i p : Int} {s : ByteArray} (hl : W32 lo) (hh : W32 hi) (hc : W32 co) : W32 (gR lo hi co s i p).2.1 ∧ W32 (gR lo hi co s i p).2.2.1 ∧ W32 (gR lo hi co s i p).2.2.2.1 := by
  unfold gR
  split
  · have := cPut_word (b := rBit lo hi co p) (p := p) hl hh
    exact ⟨this.1, this.2.1, rC_word _ _ _ hc⟩
  · exact ⟨hl, hh, hc⟩
theorem gR_bit (lo hi co i p : Int) (s : ByteArray) : (gR lo hi co s i p).1 = -1 ∨ (gR lo hi co s i p).1 = 0 ∨ (gR lo hi co s i p).1 = 1 := by
  unfold gR
  split
  · rcases rBit_in lo hi co p with h | h
    · exact .inr (.inl h)
    · exact .inr (.inr h)
  · exact .inl rfl
theorem GsOk.step {N B : Nat} {t : ByteArray} {st : GS} {s : Wk} (h : GsOk N st) (hB : B + (wkSlot s).toNat < N) : GsOk N (gN B t st s) := by
  have hw := gR_word (i := st.i) (p := gP B st s) (s := t) h.wl h.wh h.wc
  refine ⟨hw.1, hw.2.1, hw.2.2, by simp [gN, h.ln], fun x hx => ?_⟩
  rcases List.mem_or_eq_of_mem_set hx with h1 | h1
  · exact h.ch x h1
  · rw [h1]
    refine lrn_ch ?_
    unfold gP
    rw [List.getD_eq_getElem?_getD, List.getElem?_eq_getElem (by rw [h.ln]; exact hB)]
    exact h.ch _ (List.getElem_mem _)
theorem slot_bd {s : Wk} (h : WkOk s) (h4 : s.part ≠ 4) : 0 ≤ wkSlot s ∧ wkSlot s ≤ 23 := by
  unfold wkSlot
  rcases h with ⟨a1, rfl⟩ | ⟨a1, a2, a3, a5⟩ | ⟨a1, a2, a3, a5, a6⟩ | ⟨a1, a2, a3, a5, a6, a7, a8⟩ | ⟨a1, a2, a3⟩
  · decide
  · rw [if_neg (by omega), if_pos a1]; decide
  · rw [if_neg (by omega), if_neg (by omega), if_pos a1]; omega
  · rw [if_neg (by omega), if_neg (by omega), if_neg (by omega)]; omega
  · exact absurd a1 h4
theorem getF_told (B : Nat) (t : ByteArray) (st : GS) (s : Wk) (h4 : s.part = 4) : ∀ f, getF B t f st s = some (st, s)
  | 0 => rfl
  | f + 1 => by rw [getF, if_pos h4]
end Go.Proofs.Ytimafabbepgifaa
