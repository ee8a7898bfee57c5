/- Marks written into own slices of numbers. -/

import Derived.Test.YtecophkllnhabaaMk
namespace Go.Proofs.Ytecophkllnhabaa
open Go.RowKit
set_option linter.unusedVariables false

/-- The marks s, s + 1, ... -/
def marksF (s : Int) (n : Nat) : List Int := (List.range n).map fun (i : Nat) => s + (i : Int)
theorem marksF_length (s : Int) (n : Nat) : (marksF s n).length = n := by simp [marksF]
theorem marksF_get (s : Int) (n j : Nat) (h : j < n) : (marksF s n).getD j 0 = s + (j : Int) := by simp [marksF, List.getD, h]
/-- Only the slice's own block has turned. -/
def Lone (v : Value) (w w' : World) : Prop := w'.heap.size = w.heap.size ∧ ∀ b, v.ownBlock ≠ some b → w'.heap[b]? = w.heap[b]?
theorem Own.lone {w w' : World} {base : Nat} {v y : Value} {xs : List Int} (h : Own w base 3 .i64 y xs) (hl : Lone v w w') (hne : ∀ g, v.ownBlock = some g → y.ownBlock ≠ some g) : Own w' base 3 .i64 y xs := by
  refine ⟨by rw [hl.1]; exact h.1, h.2.1, ?_⟩
  rcases h.2.2 with h0 | ⟨g, cap, cur, hv, hg, hh, r⟩
  · exact .inl h0
  · refine .inr ⟨g, cap, cur, hv, hg, (hl.2 g (fun e => hne g e (by rw [hv]; rfl))).trans hh, r⟩

set_option maxHeartbeats 800000 in
/-- The marks are written into the slice, and nowhere else. -/
theorem markF (s : Int) (hs0 : 0 ≤ s) (hs1 : s ≤ 1000000000) (base : Nat) (v : Value) (ys : List Int) (w : World) (hn : ys.length ≤ 1000000000) (ho : Own w base 3 .i64 v ys) :
    Calls Try.prog 45 #[v, .int .i64 s] w fun e w' => e = .returned (.int .i64 (s + (ys.length : Int))) ∧ Own w' base 3 .i64 v (marksF s ys.length) ∧ Lone v w w' ∧ Below base w w' := by
  rcases ho.2.2 with ⟨rfl, h0⟩ | ⟨g, cap, cur, rfl, _⟩
  · have e : ys = [] := List.length_eq_zero_iff.1 h0
    subst e
    have HO := hid ho
    clear ho
    go_enter Try.func45, Try.ntmps45
    go_wp2
    go_loop [1, 5] (fun m i => m = .int .i64 s ∧ i = .int .i64 0) (fun _ _ => 0)
    case atStart => exact ⟨rfl, rfl⟩
    case round =>
      obtain ⟨rfl, rfl⟩ := hrel
      go_wp2
      go_ret
      exact ⟨ret_int (by simp), HO.out, ⟨rfl, fun _ _ => rfl⟩, Below.refl _ _⟩
  · have HO := hid ho
    have hge := ho.ge.1
    generalize hN : ys.length = n at *
    have HN := hid hN
    clear ho hN
    go_enter Try.func45, Try.ntmps45
    go_wp2
    go_loopw [1, 5] (fun m i wr => ∃ (k : Nat) (zs : List Int), k ≤ n ∧ i = .int .i64 k ∧ m = .int .i64 (s + (k : Int)) ∧ Own wr base 3 .i64 (.slice (some ⟨g, 0, none⟩) n cap) zs ∧ Hid (zs.length = n ∧ ∀ j, j < k → zs.getD j 0 = s + (j : Int)) ∧ Hid (Lone (.slice (some ⟨g, 0, none⟩) n cap) w wr) ∧ Below base w wr) (fun _ i _ => n - (intOf i).toNat)
    case atStart => exact ⟨0, ys, by omega, rfl, by simp, HO.out, ⟨HN.out, fun j hj => by omega⟩, ⟨rfl, fun _ _ => rfl⟩, Below.refl _ _⟩
    case round =>
      obtain ⟨k, zs, hk, rfl, rfl, hown, hzs, hln, hb⟩ := hrel
      by_cases hlt : k < n
      · have hold := hown.at k (by have := hzs.out.1; omega)
        have hfree := hown.free k
        have HNEW := hid (hown.store k (s + (k : Int)))
        have HLN := hid (show Lone (.slice (some ⟨g, 0, none⟩) n cap) w (wr.setCell ⟨g, k, none⟩ (.int .i64 (s + (k : Int)))) from ⟨by simpa using hln.out.1, fun b hbb => (heap_setCell_other _ ⟨g, k, none⟩ b _ (fun e => hbb (by simp only [Value.ownBlock]; rw [e]))).trans (hln.out.2 b hbb)⟩)
        generalize zs.getD k 0 = Y at *
        go_wp2
        go_roundw
        case rel =>
          refine ⟨k + 1, _, by omega, by go_num, by go_num, HNEW.out, ⟨by simp; exact hzs.out.1, fun j hj => ?_⟩, HLN.out, hb.setCell (p := ⟨g, k, none⟩) hge _⟩
          by_cases e : j = k
          · subst e
            simp [List.getD, hzs.out.1, hlt]
          · rw [← hzs.out.2 j (by omega)]
            simp [List.getD, show k ≠ j from fun h => e h.symm]
        case measure => simp [intOf]; omega
      · obtain rfl : k = n := by omega
        have hxy : zs = marksF s k := list_eq_of_getD (by rw [hzs.out.1, marksF_length]) (fun i hi => by rw [hzs.out.2 i (by rw [← hzs.out.1]; exact hi), marksF_get s k i (by rw [← hzs.out.1]; exact hi)])
        subst hxy
        go_wp2
        go_ret
        exact ⟨rfl, hown, hln.out, hb⟩
set_option maxHeartbeats 800000 in
theorem heldF (s : Int) (hs0 : 0 ≤ s) (hs1 : s ≤ 1000000000) (v : Value) (n : Nat) (w : World) (hn : n ≤ 1000000000) (h : Vw w v (marksF s n)) :
    Calls Try.prog 46 #[v, .int .i64 s] w fun e w' => e = .returned (.int .i64 (s + (n : Int))) ∧ w = w' := by
  obtain ⟨ao, cap, rfl, hv⟩ := h
  rw [marksF_length] at hv ⊢
  have HV := hid hv
  clear hv
  go_enter Try.func46, Try.ntmps46
  go_wp2
  go_loop [1, 5] (fun m i => ∃ k : Nat, k ≤ n ∧ i = .int .i64 k ∧ m = .int .i64 (s + (k : Int))) (fun _ i => n - (intOf i).toNat)
  case atStart => exact ⟨0, by omega, rfl, by simp⟩
  case round =>
    obtain ⟨k, hk, rfl, rfl⟩ := hrel
    by_cases hlt : k < n
    · obtain ⟨b, off, rfl, hc⟩ := HV.out.2 k hlt
      rw [marksF_get s n k hlt] at hc
      go_wp2
      go_round
      case rel => exact ⟨k + 1, by omega, by go_num, by go_num⟩
      case measure => simp [intOf]; omega
    · obtain rfl : k = n := by omega
      go_wp2
      go_ret
      exact ⟨rfl, rfl⟩

end Go.Proofs.Ytecophkllnhabaa
