/- Plain: what a coder and a model are behind the decisions of a number. No machine in it. -/
import Derived.Test.YtimafabbepgifaaPq
import Derived.Test.YtimafabbepgifaaPt
import Derived.Test.YtimafabbepgifaaLe
import Derived.Test.YtimafabbepgifaaSp
namespace Go.Proofs.Ytimafabbepgifaa
open Go.RowKit
set_option linter.unusedVariables false

theorem lrn_ch {p b : Int} (hp : isCh p = true) : isCh (lrn p b) = true := by
  have h := (isCh_iff p).1 hp
  rw [isCh_iff]
  unfold lrn
  split
  · split <;> omega
  · exact h
structure PS where
  lo : Int
  hi : Int
  o : List Int
  ch : List Int
def stepP (B : Nat) (st : PS) (t b : Int) : PS :=
  ⟨(pPut st.lo st.hi b (st.ch.getD (B + t.toNat) 0)).2.1, (pPut st.lo st.hi b (st.ch.getD (B + t.toNat) 0)).2.2, st.o ++ (pPut st.lo st.hi b (st.ch.getD (B + t.toNat) 0)).1, st.ch.set (B + t.toNat) (lrn (st.ch.getD (B + t.toNat) 0) b)⟩
def putTo (B : Nat) (P : List Int) (st : PS) : Nat → PS
  | 0 => st
  | k + 1 => stepP B (putTo B P st k) (nextS (P.take k)).1 (P.getD k 0)
/-- A right state: the bounds are words, the chances are N chances. -/
structure PsOk (N L : Nat) (st : PS) : Prop where
  wl : W32 st.lo
  wh : W32 st.hi
  ln : st.ch.length = N
  ch : ∀ x ∈ st.ch, isCh x = true
  ol : st.o.length ≤ L
theorem PsOk.at {N L : Nat} {st : PS} (h : PsOk N L st) {i : Nat} (hi : i < N) : isCh (st.ch.getD i 0) = true := by
  rw [List.getD_eq_getElem?_getD, List.getElem?_eq_getElem (by rw [h.ln]; exact hi)]
  exact h.ch _ (List.getElem_mem _)
theorem PsOk.step {N L B : Nat} {st : PS} (h : PsOk N L st) (t b : Int) (ht : B + t.toNat < N) : PsOk N (L + 4) (stepP B st t b) := by
  have hw := pPut_word (b := b) (p := st.ch.getD (B + t.toNat) 0) h.wl h.wh
  have hl := pPut_len st.lo st.hi b (st.ch.getD (B + t.toNat) 0)
  refine ⟨hw.1, hw.2, by simp [stepP, h.ln], fun x hx => ?_, ?_⟩
  · rcases List.mem_or_eq_of_mem_set hx with h1 | h1
    · exact h.ch x h1
    · rw [h1]
      exact lrn_ch (h.at ht)
  · simp only [stepP, List.length_append]
    have := h.ol
    omega
theorem putTo_ok {N L B : Nat} {x : Int} {st : PS} (h : PsOk N L st) (hB : B + 24 ≤ N) : ∀ k, k ≤ (planP x).length → PsOk N (L + 4 * k) (putTo B (planP x) st k)
  | 0, _ => h
  | k + 1, hk => by
    obtain ⟨s, _, _, _, e, h0, h1⟩ := walk_part x k (by omega)
    have := (putTo_ok (x := x) h hB k (by omega)).step (B := B) (nextS ((planP x).take k)).1 ((planP x).getD k 0) (by rw [← e]; omega)
    rw [show L + 4 * (k + 1) = L + 4 * k + 4 by omega]
    exact this
theorem planP_len23 (x : Int) : (planP x).length ≤ 23 := by
  have hle := sz_le x
  unfold planP
  split
  · simp
  · split
    · simp
    · simp only [List.length_cons, List.length_append, sb_length, bl_length]
      omega
/-- The specification's CoderPut, for a bit and a chance, where there is room. -/
theorem cRes_room {lo hi : Int} {s : ByteArray} {b p : Int} (hb : b = 0 ∨ b = 1) (hp : isCh p = true) (hs : s.size < 60000) : cRes lo hi s b p = cV (pPut lo hi b p).2.1 (pPut lo hi b p).2.2 (s ++ strOfNums (pPut lo hi b p).1) := by
  have h' := (isCh_iff p).1 hp
  unfold cRes pPut
  by_cases hle : lo ≤ hi
  · rw [if_pos (show okPut lo hi b p s.size = true from decide_eq_true ⟨by omega, h', hle, hs⟩), if_pos hle]
  · rw [if_neg (show ¬ okPut lo hi b p s.size = true from fun k => hle (of_decide_eq_true k).2.2.1), if_neg hle]
    have : s ++ strOfNums [] = s := by
      obtain ⟨d⟩ := s
      apply ByteArray.ext
      simp [strOfNums]
    simp only
    rw [this]
end Go.Proofs.Ytimafabbepgifaa
